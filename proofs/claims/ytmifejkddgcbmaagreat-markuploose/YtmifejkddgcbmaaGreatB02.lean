/- What is wrong with a tree: the program (tree.Check). -/
import Derived.Test.YtmifejkddgcbmaaGreatA05
namespace Go.Proofs.YtmifejkddgcbmaaGreat.Tc
open Go.RowKit
set_option linter.unusedVariables false
set_option linter.unusedSimpArgs false
attribute [local go_sem] Bel.cell Bel.fz

def prevAt (l : List (ByteArray × ByteArray)) (i : Nat) : Option ByteArray := if i = 0 then none else (l[i - 1]?).map (·.1)

theorem attrsGo_at {l : List (ByteArray × ByteArray)} {i : Nat} {p : ByteArray × ByteArray} (h : l[i]? = some p) :
    attrsGo (prevAt l i) (l.drop i) = if nameL p.1.data.toList = false ∨ (∃ q, prevAt l i = some q ∧ leB p.1 q = true) then 6 else if (tans p.2.data.toList).2 = 0 then attrsGo (prevAt l (i + 1)) (l.drop (i + 1)) else (tans p.2.data.toList).2 := by
  have hlt := (List.getElem?_eq_some_iff.1 h).1
  have e : l.drop i = p :: l.drop (i + 1) := by
    rw [List.drop_eq_getElem_cons hlt, (List.getElem?_eq_some_iff.1 h).2]
  have e2 : prevAt l (i + 1) = some p.1 := by simp [prevAt, h]
  rw [e, e2, attrsGo]

set_option maxRecDepth 100000 in
set_option maxHeartbeats 1000000 in
theorem attrs_long (w : World) (a : Option Addr) (n cap : Nat) (h : 32 < n) :
    Calls Tryz.prog 66 #[.slice a n cap] w fun e w' => e = .returned (.int .i64 2) ∧ w' = w := by
  go_enter Tryz.func66, Tryz.ntmps66
  go_wp2
  go_ret
  exact ⟨rfl, rfl⟩

theorem bel_end {w wr : World} {o : Obj} (h : Below w.heap.size w wr) (u : Bel (wr.alloc o)) (hs : w.heap.size ≤ wr.heap.size) : Below w.heap.size w u.w :=
  (h.alloc hs o).trans (u.h.mono (by simp; omega))
theorem bel_size {w wr : World} {o : Obj} (h : Below w.heap.size w wr) (u : Bel (wr.alloc o)) : w.heap.size ≤ u.w.heap.size := by
  have h1 := h.size
  have h2 := u.h.size
  simp at h2
  omega

set_option maxRecDepth 100000 in
set_option maxHeartbeats 1000000 in
theorem attrs_walk (w : World) (lo : Nat) (a : Option Addr) (l : List (ByteArray × ByteArray)) (cap : Nat) (h : AttrsAt w lo w.heap.size a l) (hn : l.length ≤ 32) (x : Int) (hx : attrsGo none l = x) :
    Calls Tryz.prog 66 #[.slice a l.length cap] w fun e w' => e = .returned (.int .i64 x) ∧ Below w.heap.size w w' := by
  have HX : Hid (attrsGo none l = x) := hx
  have HA : Hid (AttrsAt w lo w.heap.size a l) := h
  clear hx h
  go_enter Tryz.func66, Tryz.ntmps66
  go_wp2
  go_loopw [12] (fun v wr => ∃ i : Nat, i ≤ l.length ∧ v = .int .i64 (i : Int) ∧ Hid (attrsGo (prevAt l i) (l.drop i) = x) ∧ Hid (Below w.heap.size w wr)) (fun v _ => l.length - (intOf v).toNat)
  case atStart => exact ⟨0, by omega, rfl, HX, Below.refl _ _⟩
  case round =>
    obtain ⟨i, hi, rfl, hgo, hbw⟩ := hrel
    have hws := hbw.out.size
    by_cases hlt : i < l.length
    · obtain ⟨p, hp⟩ : ∃ p, l[i]? = some p := ⟨_, List.getElem?_eq_getElem hlt⟩
      obtain ⟨b, o, rfl, hlo, hbs, hc1, hc2⟩ := HA.out i p hp
      have hc1' : wr.cell? ⟨b, o + i * 2, none⟩ = some (.string p.1) := (hbw.out.cell (p := ⟨b, _, none⟩) hbs).trans hc1
      have hc2' : wr.cell? ⟨b, o + i * 2 + 1, none⟩ = some (.string p.2) := (hbw.out.cell (p := ⟨b, _, none⟩) hbs).trans hc2
      have hbr : b < wr.heap.size := by omega
      have hstep := attrsGo_at hp
      rw [hgo.out] at hstep
      have hnw := fun W => name_any W p.1
      have htw := fun W => text_any W p.2
      cases hnm : nameL p.1.data.toList
      · rw [if_pos (.inl hnm)] at hstep
        rw [hnm] at hnw
        have HSX : Hid (x = 6) := hstep
        clear hstep hnm HX HA hgo hc1 hc2 hp
        go_wp2
        refine wp_region_bel (by kernel_rfl) (by kernel_rfl) ?_
        intro hne
        repeat go_big_quiet_step ((go_at_call 65; exact Calls.bel_of (hnw _)))
        refine wpQuiet_nil ?_
        rintro _ ⟨u, rfl⟩
        go_wp2
        go_ret
        exact ⟨congrArg _ (v_int HSX.out.symm), bel_end hbw.out u hws⟩
      · rw [hnm] at hnw
        by_cases hi0 : i = 0
        · have hnp : ¬ (nameL p.1.data.toList = false ∨ ∃ q, prevAt l i = some q ∧ leB p.1 q = true) := by
            rintro (h | ⟨q, hq, _⟩)
            · rw [hnm] at h; cases h
            · simp [prevAt, hi0] at hq
          rw [if_neg hnp] at hstep
          have hd : decide (0 < i) = false := by simp; omega
          have HI : Hid (i = 0) := hi0
          clear hnp hi0 hnm HX HA hgo hc1 hc2 hp
          generalize (tans p.2.data.toList).1 = y1 at *
          generalize (tans p.2.data.toList).2 = y2 at *
          by_cases hy : y2 = 0
          · rw [if_pos hy] at hstep
            subst hy
            have HS : Hid (x = attrsGo (prevAt l (i + 1)) (l.drop (i + 1))) := hstep
            clear hstep
            go_wp2
            refine wp_region_bel (by kernel_rfl) (by kernel_rfl) ?_
            intro hne
            repeat go_big_quiet_step ((go_at_call 65; exact Calls.bel_of (hnw _)))
            refine wpQuiet_nil ?_
            rintro _ ⟨u, rfl⟩
            go_wp2_with fail
            refine (htw _).mono ?_
            rintro e w2 ⟨rfl, hb2⟩
            go_wp2
            go_roundw
            case rel => exact ⟨i + 1, by omega, by go_num, HS.out.symm, (bel_end hbw.out u hws).trans (hb2.mono (bel_size hbw.out u))⟩
            case measure => simp [intOf]; omega
          · rw [if_neg hy] at hstep
            have hbn : (y2 == 0) = false := beq_eq_false_iff_ne.2 hy
            have HS : Hid (x = y2) := hstep
            have HY : Hid (¬ y2 = 0) := hy
            clear hstep hy
            go_wp2
            refine wp_region_bel (by kernel_rfl) (by kernel_rfl) ?_
            intro hne
            repeat go_big_quiet_step ((go_at_call 65; exact Calls.bel_of (hnw _)))
            refine wpQuiet_nil ?_
            rintro _ ⟨u, rfl⟩
            go_wp2_with fail
            refine (htw _).mono ?_
            rintro e w2 ⟨rfl, hb2⟩
            go_wp2
            go_ret
            exact ⟨congrArg _ (v_int HS.out.symm), (bel_end hbw.out u hws).trans (hb2.mono (bel_size hbw.out u))⟩
        · obtain ⟨j, rfl⟩ : ∃ j, i = j + 1 := ⟨i - 1, by omega⟩
          obtain ⟨q, hq⟩ : ∃ q, l[j]? = some q := ⟨_, List.getElem?_eq_getElem (by omega)⟩
          obtain ⟨b', o', he, _, _, hq1, _⟩ := HA.out j q hq
          simp only [Option.some.injEq, Addr.mk.injEq, and_true] at he
          obtain ⟨rfl, rfl⟩ := he
          have hq1' : wr.cell? ⟨b, o + j * 2, none⟩ = some (.string q.1) := (hbw.out.cell (p := ⟨b, _, none⟩) hbs).trans hq1
          have hpv : prevAt l (j + 1) = some q.1 := by simp [prevAt, hq]
          have hi1 : ((j + 1 : Nat) : Int) - 1 = (j : Int) := by omega
          have hi2 : (j : Int) < ((l.length : Nat) : Int) := by omega
          have hd : decide ((0 : Int) < ((j + 1 : Nat) : Int)) = true := by simp
          cases hle : leB p.1 q.1
          · have hnp : ¬ (nameL p.1.data.toList = false ∨ ∃ q, prevAt l (j + 1) = some q ∧ leB p.1 q = true) := by
              rintro (h | ⟨q', hq', h⟩)
              · rw [hnm] at h; cases h
              · rw [hpv] at hq'; cases hq'; rw [hle] at h; cases h
            rw [if_neg hnp] at hstep
            have hle' : (Op.bytesLess p.1.toList q.1.toList || p.1.toList == q.1.toList) = false := hle
            generalize hz : (Op.bytesLess p.1.toList q.1.toList || p.1.toList == q.1.toList) = z at hle'
            subst hle'
            clear hnp hnm HX HA hgo hc1 hc2 hp hq hq1 hpv hi0 hle
            generalize (tans p.2.data.toList).1 = y1 at *
            generalize (tans p.2.data.toList).2 = y2 at *
            by_cases hy : y2 = 0
            · rw [if_pos hy] at hstep
              subst hy
              have HS : Hid (x = attrsGo (prevAt l (j + 1 + 1)) (l.drop (j + 1 + 1))) := hstep
              clear hstep
              go_wp2
              refine wp_region_bel (by kernel_rfl) (by kernel_rfl) ?_
              intro hne
              repeat go_big_quiet_step ((go_at_call 65; exact Calls.bel_of (hnw _)))
              refine wpQuiet_nil ?_
              rintro _ ⟨u, rfl⟩
              go_wp2_with fail
              refine (htw _).mono ?_
              rintro e w2 ⟨rfl, hb2⟩
              go_wp2
              go_roundw
              case rel => exact ⟨j + 1 + 1, by omega, by go_num, HS.out.symm, (bel_end hbw.out u hws).trans (hb2.mono (bel_size hbw.out u))⟩
              case measure => simp [intOf]; omega
            · rw [if_neg hy] at hstep
              have hbn : (y2 == 0) = false := beq_eq_false_iff_ne.2 hy
              have HS : Hid (x = y2) := hstep
              have HY : Hid (¬ y2 = 0) := hy
              clear hstep hy
              go_wp2
              refine wp_region_bel (by kernel_rfl) (by kernel_rfl) ?_
              intro hne
              repeat go_big_quiet_step ((go_at_call 65; exact Calls.bel_of (hnw _)))
              refine wpQuiet_nil ?_
              rintro _ ⟨u, rfl⟩
              go_wp2_with fail
              refine (htw _).mono ?_
              rintro e w2 ⟨rfl, hb2⟩
              go_wp2
              go_ret
              exact ⟨congrArg _ (v_int HS.out.symm), (bel_end hbw.out u hws).trans (hb2.mono (bel_size hbw.out u))⟩
          · rw [if_pos (.inr ⟨q.1, hpv, hle⟩)] at hstep
            have hle' : (Op.bytesLess p.1.toList q.1.toList || p.1.toList == q.1.toList) = true := hle
            have HSX : Hid (x = 6) := hstep
            clear hstep hnm HX HA hgo hc1 hc2 hp hq hq1 hpv hi0 hle
            go_wp2
            refine wp_region_bel (by kernel_rfl) (by kernel_rfl) ?_
            intro hne
            repeat go_big_quiet_step ((go_at_call 65; exact Calls.bel_of (hnw _)))
            refine wpQuiet_nil ?_
            rintro _ ⟨u, rfl⟩
            go_wp2
            go_ret
            exact ⟨congrArg _ (v_int HSX.out.symm), bel_end hbw.out u hws⟩
    · have hfin : x = 0 := by
        rw [← hgo.out, List.drop_eq_nil_of_le (by omega)]
        cases prevAt l i <;> rfl
      clear hgo HX HA
      go_wp2
      go_ret
      exact ⟨congrArg _ (v_int hfin.symm), hbw.out⟩

theorem bel_end0 {w wr : World} (h : Below w.heap.size w wr) (u : Bel wr) (hs : w.heap.size ≤ wr.heap.size) : Below w.heap.size w u.w :=
  h.trans (u.h.mono hs)
theorem bel_size0 {w wr : World} (h : Below w.heap.size w wr) (u : Bel wr) : w.heap.size ≤ u.w.heap.size := by
  have h1 := h.size
  have h2 := u.h.size
  omega

theorem attrs_any (w : World) (lo : Nat) (a : Option Addr) (l : List (ByteArray × ByteArray)) (cap : Nat) (h : AttrsAt w lo w.heap.size a l) :
    Calls Tryz.prog 66 #[.slice a l.length cap] w fun e w' => e = .returned (.int .i64 (attrsE l)) ∧ Below w.heap.size w w' := by
  by_cases hl : 32 < l.length
  · rw [attrsE, if_pos hl]
    refine (attrs_long w a _ cap hl).mono ?_
    rintro e w' ⟨rfl, rfl⟩
    exact ⟨rfl, Below.refl _ _⟩
  · rw [attrsE, if_neg hl]
    exact attrs_walk w lo a l cap h (by omega) _ rfl

end Go.Proofs.YtmifejkddgcbmaaGreat.Tc

namespace Go.Proofs.YtmifejkddgcbmaaGreat.Tc
open Go.RowKit
set_option linter.unusedVariables false
set_option linter.unusedSimpArgs false

theorem _root_.Go.Proofs.YtmifejkddgcbmaaGreat.AttrsAt.after {w w' : World} {lo : Nat} {a : Option Addr} {l : List (ByteArray × ByteArray)} (h : AttrsAt w lo w.heap.size a l) (hb : Below w.heap.size w w') : AttrsAt w' lo w'.heap.size a l :=
  (h.of_cells (fun b o _ hb' => hb.cell (p := ⟨b, o, none⟩) hb')).mono (Nat.le_refl _) hb.size

theorem below_new' (w : World) (o : Obj) : Below w.heap.size w (w.alloc o) := (Below.refl _ _).alloc (Nat.le_refl _) o

set_option maxRecDepth 100000 in
set_option maxHeartbeats 1000000 in
theorem node_any {α : Type} (w : World) (lo : Nat) (t : Nd α) (a : Option Addr) (ac : Nat) (ka : Option Addr) (kl kc : Nat) (h : AttrsAt w lo w.heap.size a t.attrs) :
    Calls Tryz.prog 43 #[.agg #[.int .i64 t.kind, .string t.name, .slice a t.attrs.length ac, .string t.text, .slice ka kl kc]] w fun e w' => e = .returned (.int .i64 (ownE t)) ∧ Below w.heap.size w w' := by
  have hbn := below_new' w (.cells #[.int .i64 t.kind, .string t.name, .slice a t.attrs.length ac, .string t.text, .slice ka kl kc] 40)
  have hnw := fun W => name_any W t.name
  have htw := fun W => text_any W t.text
  have haw : ∀ W, Below (w.alloc (.cells #[.int .i64 t.kind, .string t.name, .slice a t.attrs.length ac, .string t.text, .slice ka kl kc] 40)).heap.size (w.alloc (.cells #[.int .i64 t.kind, .string t.name, .slice a t.attrs.length ac, .string t.text, .slice ka kl kc] 40)) W → Calls Tryz.prog 66 #[.slice a t.attrs.length ac] W fun e w' => e = .returned (.int .i64 (attrsE t.attrs)) ∧ Below W.heap.size W w' :=
    fun W hb => attrs_any W lo a t.attrs ac ((h.after hbn).after hb)
  have HBN : Hid (Below w.heap.size w (w.alloc (.cells #[.int .i64 t.kind, .string t.name, .slice a t.attrs.length ac, .string t.text, .slice ka kl kc] 40))) := hbn
  have HAW : Hid (∀ W, Below (w.alloc (.cells #[.int .i64 t.kind, .string t.name, .slice a t.attrs.length ac, .string t.text, .slice ka kl kc] 40)).heap.size (w.alloc (.cells #[.int .i64 t.kind, .string t.name, .slice a t.attrs.length ac, .string t.text, .slice ka kl kc] 40)) W → Calls Tryz.prog 66 #[.slice a t.attrs.length ac] W fun e w' => e = .returned (.int .i64 (attrsE t.attrs)) ∧ Below W.heap.size W w') := haw
  clear h hbn haw
  by_cases h1 : t.kind = 1
  · have hb1 : (t.kind == 1) = true := beq_iff_eq.2 h1
    have hE : ownE t = if nameL t.name.data.toList then attrsE t.attrs else 6 := by rw [ownE, if_pos h1]
    rw [hE]
    have H1 : Hid (t.kind = 1) := h1
    clear h1 hE htw
    cases hnm : nameL t.name.data.toList
    · rw [hnm] at hnw
      clear hnm
      go_enter Tryz.func43, Tryz.ntmps43
      go_wp2_with fail
      refine (hnw _).mono ?_
      rintro e w1 ⟨rfl, hb1⟩
      go_wp2
      go_ret
      exact ⟨rfl, HBN.out.trans (hb1.mono (by simp))⟩
    · rw [hnm] at hnw
      clear hnm
      go_enter Tryz.func43, Tryz.ntmps43
      go_wp2_with fail
      refine (hnw _).mono ?_
      rintro e w1 ⟨rfl, hb1⟩
      obtain ⟨hc, hf⟩ := bcell hb1
      have HB1 : Hid (Below (w.alloc (.cells #[.int .i64 t.kind, .string t.name, .slice a t.attrs.length ac, .string t.text, .slice ka kl kc] 40)).heap.size (w.alloc (.cells #[.int .i64 t.kind, .string t.name, .slice a t.attrs.length ac, .string t.text, .slice ka kl kc] 40)) w1) := hb1
      have hs1 := hb1.size
      simp at hs1
      clear hb1
      go_wp2_with fail
      refine (HAW.out _ HB1.out).mono ?_
      rintro e w2 ⟨rfl, hb2⟩
      go_wp2
      go_ret
      exact ⟨rfl, (HBN.out.trans (HB1.out.mono (by simp))).trans (hb2.mono (by omega))⟩
  · by_cases h2 : t.kind = 2
    · have hb1 : (t.kind == 1) = false := beq_eq_false_iff_ne.2 h1
      have hb2 : (t.kind == 2) = true := beq_iff_eq.2 h2
      have hE : ownE t = (tans t.text.data.toList).2 := by rw [ownE, if_neg h1, if_pos h2]
      rw [hE]
      have H1 : Hid (t.kind = 2) := h2
      clear h1 h2 hE hnw
      go_enter Tryz.func43, Tryz.ntmps43
      go_wp2_with fail
      refine (htw _).mono ?_
      rintro e w1 ⟨rfl, hb1⟩
      go_wp2
      go_ret
      exact ⟨rfl, HBN.out.trans (hb1.mono (by simp))⟩
    · have hb1 : (t.kind == 1) = false := beq_eq_false_iff_ne.2 h1
      have hb2 : (t.kind == 2) = false := beq_eq_false_iff_ne.2 h2
      have hE : ownE t = 1 := by rw [ownE, if_neg h1, if_neg h2]
      rw [hE]
      have H1 : Hid (¬ t.kind = 1) := h1
      have H2 : Hid (¬ t.kind = 2) := h2
      clear h1 h2 hE hnw htw
      go_enter Tryz.func43, Tryz.ntmps43
      go_wp2
      go_ret
      exact ⟨rfl, HBN.out⟩

/-- The children as the list that is gone through: a nil slice, or what stands in the field. -/
theorem kidsOf_any (w : World) (k : Int) (nm : ByteArray) (a : Option Addr) (al ac : Nat) (tx : ByteArray) (ka : Option Addr) (kl kc : Nat) :
    Calls Tryz.prog 44 #[.agg #[.int .i64 k, .string nm, .slice a al ac, .string tx, .slice ka kl kc]] w fun e w' => e = .returned (if k = 2 then .slice none 0 0 else .slice ka kl kc) ∧ Below w.heap.size w w' := by
  by_cases h : k = 2
  · have hb : (k == 2) = true := beq_iff_eq.2 h
    rw [if_pos h]
    clear h
    go_enter Tryz.func44, Tryz.ntmps44
    go_wp2
    go_ret
    exact ⟨rfl, below_new' w _⟩
  · have hb : (k == 2) = false := beq_eq_false_iff_ne.2 h
    rw [if_neg h]
    clear h
    go_enter Tryz.func44, Tryz.ntmps44
    go_wp2
    go_ret
    exact ⟨rfl, below_new' w _⟩

end Go.Proofs.YtmifejkddgcbmaaGreat.Tc

namespace Go.Proofs.YtmifejkddgcbmaaGreat.Tc
open Go.RowKit
set_option linter.unusedVariables false
set_option linter.unusedSimpArgs false

/-- A list of trees lies in memory. -/
def KidsAt (w : World) (lo hi n : Nat) (ka : Option Addr) (L : List (T n)) : Prop :=
  ∀ i k, L[i]? = some k → ∃ (b o : Nat) (u : Array Value), ka = some ⟨b, o, none⟩ ∧ lo ≤ b ∧ b < hi ∧ u.size = 5 ∧ (∀ j, j < 5 → w.cell? ⟨b, o + i * 5 + j, none⟩ = u[j]?) ∧ TreeAt w lo hi n u k

theorem _root_.Go.Proofs.YtmifejkddgcbmaaGreat.TreeAt.form {w : World} {lo hi : Nat} : ∀ {n : Nat} {v : Array Value} {t : T n}, TreeAt w lo hi n v t → ∃ k nm a al ac tx ka kl kc, v = #[.int .i64 k, .string nm, .slice a al ac, .string tx, .slice ka kl kc]
  | 0, _, _, h => h.elim
  | n + 1, v, t, h => by
    obtain ⟨a, ac, ka, kc, h1, _⟩ := h
    exact ⟨_, _, _, _, _, _, _, _, _, h1⟩

theorem KidsAt.of_cells {w w' : World} {lo hi n : Nat} {ka : Option Addr} {L : List (T n)} (h : KidsAt w lo hi n ka L) (hc : ∀ b o, lo ≤ b → b < hi → w'.cell? ⟨b, o, none⟩ = w.cell? ⟨b, o, none⟩) : KidsAt w' lo hi n ka L := by
  intro i k hk
  obtain ⟨b, o, u, h1, h2, h3, h4, h5, h6⟩ := h i k hk
  exact ⟨b, o, u, h1, h2, h3, h4, fun j hj => (hc _ _ h2 h3).trans (h5 j hj), h6.of_cells hc⟩
theorem KidsAt.turn {w w' : World} {lo hi n : Nat} {ka : Option Addr} {L : List (T n)} {A : Nat → Prop} (h : KidsAt w lo hi n ka L) (ht : Turn A w w') (hs : hi ≤ w.heap.size) (hA : ∀ k, lo ≤ k → k < hi → ¬ A k) : KidsAt w' lo hi n ka L :=
  h.of_cells (fun b o hb1 hb2 => World.cell?_of_block (w := w) (a := ⟨b, o, none⟩) (ht.block b (by omega) (hA b hb1 hb2)))

/-- A child's cells, as the walk reads them. -/
theorem KidsAt.get {w : World} {lo hi n : Nat} {ka : Option Addr} {L : List (T n)} (h : KidsAt w lo hi n ka L) {i : Nat} {k : T n} (hk : L[i]? = some k) :
    ∃ b o kk nm a al ac tx ka' kl kc, ka = some ⟨b, o, none⟩ ∧ lo ≤ b ∧ b < hi ∧ w.cell? ⟨b, o + i * 5, none⟩ = some (.int .i64 kk) ∧ w.cell? ⟨b, o + i * 5 + 1, none⟩ = some (.string nm) ∧ w.cell? ⟨b, o + i * 5 + 2, none⟩ = some (.slice a al ac) ∧
      w.cell? ⟨b, o + i * 5 + 3, none⟩ = some (.string tx) ∧ w.cell? ⟨b, o + i * 5 + 4, none⟩ = some (.slice ka' kl kc) ∧ TreeAt w lo hi n #[.int .i64 kk, .string nm, .slice a al ac, .string tx, .slice ka' kl kc] k := by
  obtain ⟨b, o, u, h1, h2, h3, h4, h5, h6⟩ := h i k hk
  obtain ⟨kk, nm, a, al, ac, tx, ka', kl, kc, rfl⟩ := h6.form
  exact ⟨b, o, kk, nm, a, al, ac, tx, ka', kl, kc, h1, h2, h3, h5 0 (by omega), h5 1 (by omega), h5 2 (by omega), h5 3 (by omega), h5 4 (by omega), h6⟩

theorem chkL_at {α : Type} {f : α → Int → Int × Int} {L : List α} {i : Nat} {k : α} {a : Int} (h : L[i]? = some k) : chkL f (L.drop i) a = if (f k a).2 = 0 then chkL f (L.drop (i + 1)) (f k a).1 else f k a := by
  have hlt := (List.getElem?_eq_some_iff.1 h).1
  have e : L.drop i = k :: L.drop (i + 1) := by
    rw [List.drop_eq_getElem_cons hlt, (List.getElem?_eq_some_iff.1 h).2]
  rw [e, chkL]

theorem chkL_ge {α : Type} {f : α → Int → Int × Int} (hf : ∀ k a, a ≤ (f k a).1) : ∀ (L : List α) (a : Int), a ≤ (chkL f L a).1
  | [], a => by simp [chkL]
  | k :: r, a => by
    have h1 := hf k a
    have h2 := chkL_ge hf r (f k a).1
    rw [chkL]
    split <;> omega
theorem chk_ge : ∀ (n : Nat) (t : T n) (d a : Int), a ≤ (chk n t d a).1
  | 0, t, _, a => by simp [chk]
  | n + 1, t, d, a => by
    rw [chk]
    split
    · simp
    · split
      · have := chkL_ge (f := fun k x => chk n k (d + 1) x) (fun k a => chk_ge n k (d + 1) a) (kidsT t) (a + 1)
        omega
      · simp
theorem chk_le : ∀ (n : Nat) (t : T n) (d a : Int), a ≤ 4096 → (chk n t d a).1 ≤ 4096
  | 0, t, _, a, h => by simpa [chk] using h
  | n + 1, t, d, a, h => by
    rw [chk]
    split
    · exact h
    · rename_i h1
      split
      · have : ∀ (L : List (T n)) (a : Int), a ≤ 4096 → (chkL (fun k x => chk n k (d + 1) x) L a).1 ≤ 4096 := by
          intro L
          induction L with
          | nil => intro a h; exact h
          | cons k r ih =>
            intro a h
            rw [chkL]
            split
            · exact ih _ (chk_le n k (d + 1) a h)
            · exact chk_le n k (d + 1) a h
        exact this _ _ (by omega)
      · exact h

/-- The children that play a part, with the slice that is gone through. -/
theorem _root_.Go.Proofs.YtmifejkddgcbmaaGreat.TreeAt.kids {w : World} {lo hi n : Nat} {t : T (n + 1)} {a : Option Addr} {al ac : Nat} {ka : Option Addr} {kl kc : Nat} (h : TreeAt w lo hi (n + 1) #[.int .i64 t.kind, .string t.name, .slice a al ac, .string t.text, .slice ka kl kc] t) (ho : ownE t = 0) :
    ∃ ka' kc', (if t.kind = 2 then Value.slice none 0 0 else .slice ka kl kc) = .slice ka' (kidsT t).length kc' ∧ (if t.kind = 1 then Value.slice ka kl kc else .slice none 0 0) = .slice ka' (kidsT t).length kc' ∧ KidsAt w lo hi n ka' (kidsT t) ∧ (kidsT t).length ≤ maxK := by
  obtain ⟨a', ac', ka', kc', h1, h2, h3, h4, h5, h6, h7⟩ := h
  simp only [tv, Array.mk.injEq, List.cons.injEq, Value.slice.injEq, and_true, true_and] at h1
  obtain ⟨_, rfl, rfl, rfl⟩ := h1
  by_cases k1 : t.kind = 1
  · have k2 : ¬ t.kind = 2 := by omega
    have e : kidsT t = t.kids := if_pos k1
    rw [e, if_neg k2, if_pos k1]
    exact ⟨_, _, rfl, rfl, h7, h3⟩
  · have k2 : t.kind = 2 := by
      unfold ownE at ho
      rw [if_neg k1] at ho
      by_cases k2 : t.kind = 2
      · exact k2
      · rw [if_neg k2] at ho; omega
    have e : kidsT t = [] := if_neg k1
    rw [e, if_pos k2, if_neg k1]
    exact ⟨none, 0, rfl, rfl, fun i k hk => by simp at hk, Nat.zero_le _⟩

theorem turn_start {w : World} {pb : Nat} {ah : Value} (h : IsCells w pb #[ah]) (o : Obj) : Turn (fun b => b = pb) w (w.alloc o) ∧ IsCells (w.alloc o) pb #[ah] :=
  ⟨(Turn.refl _ _).alloc o, h.alloc o⟩

/-- What a call of check leaves. -/
def ChkP (w : World) (n : Nat) (t : T n) (pb : Nat) (d ah : Int) (e : Ending) (w' : World) : Prop :=
  e = .returned (.int .i64 (chk n t d ah).2) ∧ Turn (fun b => b = pb) w w' ∧ ∃ x : Int, IsCells w' pb #[.int .i64 x] ∧ ((chk n t d ah).2 = 0 → x = (chk n t d ah).1)

def ChkAll (n : Nat) : Prop := ∀ (w : World) (v : Array Value) (t : T n) (lo hi pb : Nat) (d ah : Int), TreeAt w lo hi n v t → hi ≤ pb → IsCells w pb #[.int .i64 ah] → 0 ≤ ah → ah ≤ 4096 → 0 ≤ d → d ≤ 65 →
    Calls Tryz.prog 31 #[.agg v, .int .i64 d, .pointer (some ⟨pb, 0, none⟩)] w (ChkP w n t pb d ah)

theorem turn_put {w : World} {pb : Nat} (v : Value) (o : Obj) : Turn (fun b => b = pb) w ((w.setCell ⟨pb, 0, none⟩ v).alloc o) :=
  (Turn.setCell (A := fun b => b = pb) (Turn.refl _ w) (p := ⟨pb, 0, none⟩) rfl v).alloc o

set_option maxRecDepth 100000 in
set_option maxHeartbeats 1000000 in
theorem check_any : ∀ (n : Nat), ChkAll n
  | 0 => fun _ _ _ _ _ _ _ _ h => h.elim
  | n + 1 => by
    intro w v t lo hi pb d ah h hhi hpb h0 h1 hd0 hd1
    have ih := check_any n
    have hpl := hpb.lt
    have hcell : w.cell? ⟨pb, 0, none⟩ = some (.int .i64 ah) := by rw [hpb.cell]; rfl
    have hfz : w.frozen? ⟨pb, 0, none⟩ = false := hpb.frozen 0
    obtain ⟨a, ac, ka, kc, rfl, hal, hkl, hac, hkc, hat, hkt⟩ := id h
    unfold tv at h ⊢
    by_cases hdd : 64 < d
    · have hR : chk (n + 1) t d ah = (ah, 2) := by rw [chk, if_pos (.inl hdd)]
      have HR : Hid (chk (n + 1) t d ah = (ah, 2)) := hR
      have HPB : Hid (IsCells w pb #[.int .i64 ah]) := hpb
      clear hR hal hkl hac hkc hat hkt h hpb ih
      go_enter Tryz.func31, Tryz.ntmps31
      go_wp2
      go_ret
      exact ⟨by rw [HR.out]; rfl, (turn_start HPB.out _).1, ah, (turn_start HPB.out _).2, fun h => by rw [HR.out] at h; cases h⟩
    · by_cases haa : 4096 ≤ ah
      · have hR : chk (n + 1) t d ah = (ah, 2) := by rw [chk, if_pos (.inr haa)]
        have HR : Hid (chk (n + 1) t d ah = (ah, 2)) := hR
        have HPB : Hid (IsCells w pb #[.int .i64 ah]) := hpb
        clear hR hal hkl hac hkc hat hkt h hpb ih
        have hd : decide (64 < d) = false := by simpa using hdd
        go_enter Tryz.func31, Tryz.ntmps31
        go_wp2
        go_ret
        exact ⟨by rw [HR.out]; rfl, (turn_start HPB.out _).1, ah, (turn_start HPB.out _).2, fun h => by rw [HR.out] at h; cases h⟩
      · have hR : chk (n + 1) t d ah = if ownE t = 0 then chkL (fun k x => chk n k (d + 1) x) (kidsT t) (ah + 1) else (ah, ownE t) := by
          rw [chk, if_neg (by omega)]
        have hd : decide (64 < d) = false := by simpa using hdd
        have ha : decide (4096 ≤ ah) = false := by simpa using haa
        have hsz : hi ≤ w.heap.size := by omega
        have HT0 : Hid (Turn (fun b => b = pb) w ((w.setCell ⟨pb, 0, none⟩ (.int .i64 (ah + 1))).alloc (.cells #[.int .i64 t.kind, .string t.name, .slice a t.attrs.length ac, .string t.text, .slice ka t.kids.length kc] 40))) :=
          turn_put _ _
        have HI0 : Hid (IsCells ((w.setCell ⟨pb, 0, none⟩ (.int .i64 (ah + 1))).alloc (.cells #[.int .i64 t.kind, .string t.name, .slice a t.attrs.length ac, .string t.text, .slice ka t.kids.length kc] 40)) pb #[.int .i64 (ah + 1)]) :=
          (hpb.set 0 _).alloc _
        have HAT : Hid (AttrsAt w lo hi a t.attrs) := hat
        have HTR : Hid (TreeAt w lo hi (n + 1) #[.int .i64 t.kind, .string t.name, .slice a t.attrs.length ac, .string t.text, .slice ka t.kids.length kc] t) := h
        have HR : Hid (chk (n + 1) t d ah = if ownE t = 0 then chkL (fun k x => chk n k (d + 1) x) (kidsT t) (ah + 1) else (ah, ownE t)) := hR
        clear hR hal hkl hac hkc hat hkt h hpb
        go_enter Tryz.func31, Tryz.ntmps31
        go_wp2_with fail
        refine (node_any _ lo t a ac ka _ kc ?_).mono ?_
        · exact (HAT.out.of_cells (fun b o hb1 hb2 => World.cell?_of_block (w := w) (a := ⟨b, o, none⟩) (HT0.out.block b (by omega) (by omega)))).mono (Nat.le_refl _) (Nat.le_trans hsz HT0.out.size)
        rintro e w1 ⟨rfl, hb1⟩
        have HT1 : Hid (Turn (fun b => b = pb) w w1) := HT0.out.then hb1 HT0.out.size
        have HI1 : Hid (IsCells w1 pb #[.int .i64 (ah + 1)]) := HI0.out.of_block (hb1.block pb HI0.out.lt)
        have hc1 : ∀ o, w1.cell? ⟨w.heap.size, o, none⟩ = _ := fun o => hb1.cell (p := ⟨w.heap.size, o, none⟩) (by simp)
        clear hb1
        by_cases ho : ownE t = 0
        · obtain ⟨ka', kc', hk1, _, hkt, hkm⟩ := HTR.out.kids ho
          rw [ho]
          have hR := HR.out
          rw [if_pos ho] at hR
          have HRR : Hid (chk (n + 1) t d ah = chkL (fun k x => chk n k (d + 1) x) (kidsT t) (ah + 1)) := hR
          have hko := kidsOf_any w1 t.kind t.name a t.attrs.length ac t.text ka t.kids.length kc
          rw [hk1] at hko
          unfold maxK at hkm
          have HKT : Hid (KidsAt w lo hi n ka' (kidsT t)) := hkt
          clear HR hR HTR HAT hk1 ho hkt HT0 HI0
          generalize kidsT t = L at *
          go_wp2_with fail
          refine hko.mono ?_
          rintro e w2 ⟨rfl, hb2⟩
          have HT2 : Hid (Turn (fun b => b = pb) w w2) := HT1.out.then hb2 HT1.out.size
          have HI2 : Hid (IsCells w2 pb #[.int .i64 (ah + 1)]) := HI1.out.of_block (hb2.block pb HI1.out.lt)
          clear hb2 hc1 HT1 HI1 hko
          go_wp2
          go_loopw [32] (fun v wr => ∃ (i : Nat) (x : Int), i ≤ L.length ∧ v = .int .i64 (i : Int) ∧ 0 ≤ x ∧ x ≤ 4096 ∧ Hid (chkL (fun k x => chk n k (d + 1) x) (L.drop i) x = chk (n + 1) t d ah) ∧ Hid (IsCells wr pb #[.int .i64 x]) ∧ Hid (Turn (fun b => b = pb) w wr)) (fun v _ => L.length - (intOf v).toNat)
          case atStart => exact ⟨0, ah + 1, by omega, rfl, by omega, by omega, HRR.out.symm, HI2, HT2⟩
          case round =>
            obtain ⟨i, x, hi', rfl, hx0, hx1, hgo, hiw, htw⟩ := hrel
            have hws := htw.out.size
            by_cases hlt : i < L.length
            · obtain ⟨k, hk⟩ : ∃ k, L[i]? = some k := ⟨_, List.getElem?_eq_getElem hlt⟩
              have hkt' := HKT.out.turn htw.out hsz (fun k h1 h2 => by omega)
              obtain ⟨b, o, kk, nm, a', al', ac', tx, ka2, kl2, kc2, rfl, hb1, hb2, c0, c1, c2, c3, c4, htr⟩ := hkt'.get hk
              have hbr : b < wr.heap.size := by omega
              have hstep := chkL_at (f := fun k x => chk n k (d + 1) x) (a := x) hk
              rw [hgo.out] at hstep
              have hge := chk_ge n k (d + 1) x
              have hle := chk_le n k (d + 1) x hx1
              have HST : Hid (chk (n + 1) t d ah = if (chk n k (d + 1) x).2 = 0 then chkL (fun k x => chk n k (d + 1) x) (L.drop (i + 1)) (chk n k (d + 1) x).1 else chk n k (d + 1) x) := hstep
              have HTR : Hid (TreeAt wr lo hi n #[.int .i64 kk, .string nm, .slice a' al' ac', .string tx, .slice ka2 kl2 kc2] k) := htr
              clear hstep hgo HKT hkt' hk htr HRR HT2 HI2
              go_wp2_with fail
              refine (ih _ _ k lo hi pb (d + 1) x (HTR.out.turn (A := fun _ => False) ((Turn.refl _ _).alloc _) (by omega) (fun _ _ _ h => h)) hhi (hiw.out.alloc _) hx0 hx1 (by omega) (by omega)).mono ?_
              rintro e w3 ⟨rfl, ht3, y, hy, hxy⟩
              have HT3 : Hid (Turn (fun b => b = pb) w w3) := htw.out.trans (((Turn.refl _ wr).alloc _).trans ht3)
              have HY : Hid (IsCells w3 pb #[.int .i64 y]) := hy
              have HXY : Hid ((chk n k (d + 1) x).2 = 0 → y = (chk n k (d + 1) x).1) := hxy
              clear ht3 hy hxy htw hiw HTR c0 c1 c2 c3 c4
              by_cases he : (chk n k (d + 1) x).2 = 0
              · have hyy := HXY.out he
                have hS := HST.out
                rw [if_pos he] at hS
                have HS : Hid (chk (n + 1) t d ah = chkL (fun k x => chk n k (d + 1) x) (L.drop (i + 1)) y) := by rw [hyy]; exact hS
                have hy0 : 0 ≤ y ∧ y ≤ 4096 := by omega
                rw [he]
                clear hyy hS HST HXY he
                go_wp2
                go_roundw
                case rel => exact ⟨i + 1, y, by omega, by go_num, hy0.1, hy0.2, HS.out.symm, HY, HT3⟩
                case measure => simp [intOf]; omega
              · have hbn : ((chk n k (d + 1) x).2 == 0) = false := beq_eq_false_iff_ne.2 he
                have hS := HST.out
                rw [if_neg he] at hS
                have HS : Hid (chk (n + 1) t d ah = chk n k (d + 1) x) := hS
                have HE : Hid (¬ (chk n k (d + 1) x).2 = 0) := he
                clear hS HST HXY he hge hle
                generalize hz : (chk n k (d + 1) x).2 = z at *
                have HZ : Hid ((chk n k (d + 1) x).2 = z) := hz
                clear hz
                go_wp2
                go_ret
                exact ⟨by rw [HS.out, HZ.out]; rfl, HT3.out, y, HY.out, fun h => by rw [HS.out, HZ.out] at h; exact (HE.out h).elim⟩
            · have hfin : chk (n + 1) t d ah = (x, 0) := by
                rw [← hgo.out, List.drop_eq_nil_of_le (by omega)]
                rfl
              have HF : Hid (chk (n + 1) t d ah = (x, 0)) := hfin
              clear hfin hgo HKT HRR HT2 HI2
              go_wp2
              go_ret
              exact ⟨by rw [HF.out]; rfl, htw.out, x, hiw.out, fun _ => by rw [HF.out]⟩
        · have hbn : (ownE t == 0) = false := beq_eq_false_iff_ne.2 ho
          have hR := HR.out
          rw [if_neg ho] at hR
          have HRR : Hid (chk (n + 1) t d ah = (ah, ownE t)) := hR
          have HO : Hid (¬ ownE t = 0) := ho
          clear HR hR HTR HAT ho HT0 HI0 ih
          generalize ownE t = x at *
          go_wp2
          go_ret
          exact ⟨by rw [HRR.out]; rfl, HT1.out, ah + 1, HI1.out, fun h => by rw [HRR.out] at h; exact (HO.out h).elim⟩

set_option maxRecDepth 100000 in
set_option maxHeartbeats 1000000 in
theorem Check_any (n : Nat) (w : World) (v : Array Value) (t : T n) (lo hi : Nat) (h : TreeAt w lo hi n v t) (hsz : hi ≤ w.heap.size) :
    Calls Tryz.prog 19 #[.agg v] w fun e w' => e = .returned (.int .i64 (chk n t 1 0).2) ∧ Below w.heap.size w w' := by
  obtain ⟨k, nm, a, al, ac, tx, ka, kl, kc, rfl⟩ := h.form
  have hb0 : Below w.heap.size w ((w.alloc (.cells #[.int .i64 k, .string nm, .slice a al ac, .string tx, .slice ka kl kc] 40)).alloc (.cells #[.int .i64 0] 3)) := (below_new' w _).alloc (by simp) _
  have hi0 : IsCells ((w.alloc (.cells #[.int .i64 k, .string nm, .slice a al ac, .string tx, .slice ka kl kc] 40)).alloc (.cells #[.int .i64 0] 3)) (w.heap.size + 1) #[.int .i64 0] := by
    have := isCells_new (w.alloc (.cells #[.int .i64 k, .string nm, .slice a al ac, .string tx, .slice ka kl kc] 40)) #[.int .i64 0] 3
    simpa using this
  have HC := check_any n _ _ t lo hi (w.heap.size + 1) 1 0 (h.below hb0 hsz) (by omega) hi0 (by omega) (by omega) (by omega) (by omega)
  have HB0 : Hid (Below w.heap.size w ((w.alloc (.cells #[.int .i64 k, .string nm, .slice a al ac, .string tx, .slice ka kl kc] 40)).alloc (.cells #[.int .i64 0] 3))) := hb0
  clear h hb0 hi0
  go_enter Tryz.func19, Tryz.ntmps19
  go_wp2_with fail
  refine HC.mono ?_
  rintro e w1 ⟨rfl, ht1, _⟩
  go_wp2
  go_ret
  exact ⟨rfl, HB0.out.trans (ht1.below (by simp; omega) (fun k hk => by omega))⟩

end Go.Proofs.YtmifejkddgcbmaaGreat.Tc
