/- What is wrong with a pattern, and its places: the program's places, the document's Check and Nodes. -/
import Derived.Test.YtmeinebfdljndaaNod
namespace Go.Proofs.Ytmeinebfdljndaa
open Go.RowKit
set_option linter.unusedVariables false

/-- Places in memory. -/
def PcAt (w : World) (a : Option Addr) (L : List Plc) : Prop := ∀ i p, L[i]? = some p → ∃ g, a = some ⟨g, 0, none⟩ ∧ g < w.heap.size ∧ w.cell? ⟨g, i * 3, none⟩ = some (.string p.nm) ∧ w.cell? ⟨g, i * 3 + 1, none⟩ = some (.int .i64 p.up) ∧ w.cell? ⟨g, i * 3 + 2, none⟩ = some (.bool p.dr)
theorem PcAt.bel {w w' : World} {a : Option Addr} {L : List Plc} (h : PcAt w a L) (hb : Below w.heap.size w w') : PcAt w' a L := fun i p hp => by
  obtain ⟨g, h1, h2, h3, h4, h5⟩ := h i p hp
  exact ⟨g, h1, Nat.lt_of_lt_of_le h2 hb.size, (hb.cell (p := ⟨g, i * 3, none⟩) h2).trans h3, (hb.cell (p := ⟨g, i * 3 + 1, none⟩) h2).trans h4, (hb.cell (p := ⟨g, i * 3 + 2, none⟩) h2).trans h5⟩
theorem plcC_get : ∀ (l : List Plc) (i : Nat) (x : Plc), l[i]? = some x → (plcC l)[i * 3]? = some (.string x.nm) ∧ (plcC l)[i * 3 + 1]? = some (.int .i64 x.up) ∧ (plcC l)[i * 3 + 2]? = some (.bool x.dr)
  | [], i, x, h => by simp at h
  | y :: r, 0, x, h => by
    simp at h
    subst h
    exact ⟨rfl, rfl, rfl⟩
  | y :: r, i + 1, x, h => by
    have := plcC_get r i x (by simpa using h)
    rw [show (i + 1) * 3 = i * 3 + 3 from by omega]
    simpa [plcC] using this
theorem row_plc {w : World} {base : Nat} {e : TypeId} {a : Option Addr} {n cap : Nat} {L : List Plc} (h : w.ownsRow base e 3 (.slice a n cap) n (plcC L)) : PcAt w a L := by
  obtain ⟨hc, hl, hcell⟩ := row_cell h
  refine fun i x hx => ?_
  obtain ⟨g1, g2, g3⟩ := plcC_get L i x hx
  obtain ⟨g, rfl, hb, hlt, c1⟩ := hcell _ _ g1
  obtain ⟨g', e', _, _, c2⟩ := hcell _ _ g2
  cases e'
  obtain ⟨g', e', _, _, c3⟩ := hcell _ _ g3
  cases e'
  exact ⟨g, rfl, hlt, c1, c2, c3⟩
theorem own_less {w : World} {b b' : Nat} {e : TypeId} {size : Nat} {v : Value} {n : Nat} {xs : List Value} (h : w.ownsRow b e size v n xs) (hb : b' ≤ b) : w.ownsRow b' e size v n xs := by
  refine ⟨h.1, ?_⟩
  rcases h.2 with h | ⟨g, cap, cur, e1, h2, h3⟩
  · exact .inl h
  · exact .inr ⟨g, cap, cur, e1, by omega, h3⟩
theorem own_none (w : World) (b : Nat) (e : TypeId) (size : Nat) : w.ownsRow b e size (.slice none 0 0) 0 [] := ⟨by simp, .inl ⟨rfl, rfl⟩⟩
theorem own_bel {w w' : World} {base : Nat} {e : TypeId} {size : Nat} {v : Value} {n : Nat} {xs : List Value} (h : w.ownsRow base e size v n xs) (hb : Below w.heap.size w w') : w'.ownsRow base e size v n xs :=
  own_of_block h (fun k hk => hb.block k (own_block_lt h k hk).2)
theorem okA_take {L : List Plc} {i : Nat} {p : Plc} (h : L[i]? = some p) : okA (L.take (i + 1)) = (okA (L.take i) && okN p.nm) := by
  unfold okA
  rw [take_snoc h, List.all_append]
  simp
theorem okA_no {L : List Plc} {i : Nat} {p : Plc} (h : L[i]? = some p) (hn : okN p.nm = false) : okA L = false := by
  unfold okA
  rw [List.all_eq_false]
  exact ⟨p, List.mem_of_getElem? h, by simp [hn]⟩

/-- What places answers. -/
def PlsQ (w : World) (L : List Plc) (y : Int) (e : Ending) (w' : World) : Prop :=
  ∃ a c, e = .returned (.tuple #[.slice a L.length c, .int .i64 y]) ∧ w'.ownsRow w.heap.size 87 3 (.slice a L.length c) L.length (plcC L) ∧ Below w.heap.size w w'
def plA (n : Nat) (t : TP n) : List Plc := if chkT n t = 0 then plT n t (-1) 0 else []

set_option maxRecDepth 100000 in
set_option maxHeartbeats 2000000 in
theorem places_big {n : Nat} (w : World) {nm : ByteArray} {dr : Bool} {ka : Option Addr} {kl kc : Nat} {t : TP n} (h : TwAt w w.heap.size n #[.string nm, .bool dr, .slice ka kl kc] t) (hs : 16 < szT n t) :
    Calls Try.prog 21 #[.agg #[.string nm, .bool dr, .slice ka kl kc]] w (PlsQ w [] 120) := by
  have hb : Below w.heap.size w (w.alloc (.cells #[.string nm, .bool dr, .slice ka kl kc] 24)) := (Below.refl _ _).alloc (Nat.le_refl _) _
  have hc := size_any (w.alloc (.cells #[.string nm, .bool dr, .slice ka kl kc] 24)) ((h.below hb (Nat.le_refl _)).mono hb.size)
  have HB : Hid (∀ X, Below (w.alloc (.cells #[.string nm, .bool dr, .slice ka kl kc] 24)).heap.size (w.alloc (.cells #[.string nm, .bool dr, .slice ka kl kc] 24)) X → PlsQ w [] 120 (.returned (.tuple #[.slice none 0 0, .int .i64 120])) X) := fun X hX => ⟨none, 0, rfl, own_none _ _ _ _, hb.trans (hX.mono hb.size)⟩
  rw [show min (szT n t) 17 = 17 by omega] at hc
  generalize PlsQ w [] 120 = Q at HB ⊢
  clear h hb hs
  go_enter Try.func21, Try.ntmps21
  go_wp2_with fail
  with_reducible refine hc.mono ?_
  rintro e X ⟨rfl, hX⟩
  have HX := HB.out X hX
  clear hX HB hc
  go_wp2
  exact HX

set_option maxRecDepth 100000 in
set_option maxHeartbeats 4000000 in
theorem places_small {n : Nat} (w : World) {nm : ByteArray} {dr : Bool} {ka : Option Addr} {kl kc : Nat} {t : TP n} (h : TwAt w w.heap.size n #[.string nm, .bool dr, .slice ka kl kc] t) (hs : szT n t ≤ 16) (P : List Plc) (hP : plT n t (-1) 0 = P) (R : List Plc) (y : Int) (hR : (okA P = true ∧ R = P ∧ y = 0) ∨ (okA P = false ∧ R = [] ∧ y = 6)) :
    Calls Try.prog 21 #[.agg #[.string nm, .bool dr, .slice ka kl kc]] w (PlsQ w R y) := by
  obtain ⟨W, hW⟩ : ∃ W, (w.alloc (.cells #[.string nm, .bool dr, .slice ka kl kc] 24)) = W := ⟨_, rfl⟩
  have hb : Below w.heap.size w W := by rw [← hW]; exact (Below.refl _ _).alloc (Nat.le_refl _) _
  have hx : IsCells W w.heap.size #[.string nm, .bool dr, .slice ka kl kc] := by rw [← hW]; exact isCells_new _ _ _
  have hc := size_any W ((h.below hb (Nat.le_refl _)).mono hb.size)
  have hPl : P.length ≤ 16 := by rw [← hP, plT_len]; exact hs
  have HA : Hid (∀ X, Below W.heap.size W X → Calls Try.prog 38 #[.slice none 0 0, .agg #[.string nm, .bool dr, .slice ka kl kc], .int .i64 (-1)] X fun e Y => ∃ a c, e = .returned (.slice a P.length c) ∧ Hid (Y.ownsRow w.heap.size 87 3 (.slice a P.length c) P.length (plcC P) ∧ Below w.heap.size w Y)) := fun X hX => by
    have bX : Below w.heap.size w X := hb.trans (hX.mono hb.size)
    refine (app_any n X _ t (-1) X.heap.size X.heap.size none 0 [] ((h.below bX (Nat.le_refl _)).mono bX.size) (Nat.le_refl _) (Nat.le_refl _) (own_none _ _ _ _) (by simp; omega)).mono ?_
    rintro e Y ⟨a, c, he, h1, h2⟩
    rw [List.nil_append, List.length_nil, hP] at he h1 h2
    exact ⟨a, c, he, own_less h1 bX.size, bX.trans ((h2.below (Nat.le_refl _) (fun k hk => by cases hk)).mono bX.size)⟩
  have HW : Hid ((w.alloc (.cells #[.string nm, .bool dr, .slice ka kl kc] 24)) = W) := hW
  have HX0 : Hid (IsCells W w.heap.size #[.string nm, .bool dr, .slice ka kl kc]) := hx
  obtain ⟨z, hz⟩ : ∃ z, min (szT n t) 17 = z := ⟨_, rfl⟩
  have hz9 : (z : Int) ≤ 16 := by omega
  rw [hz] at hc
  have HR : Hid ((okA P = true ∧ R = P ∧ y = 0) ∨ (okA P = false ∧ R = [] ∧ y = 6)) := hR
  have HQ : Hid (∀ a c X, X.ownsRow w.heap.size 87 3 (.slice a R.length c) R.length (plcC R) → Below w.heap.size w X → PlsQ w R y (.returned (.tuple #[.slice a R.length c, .int .i64 y])) X) := fun a c X h1 h2 => ⟨a, c, rfl, h1, h2⟩
  generalize PlsQ w R y = Q at HQ ⊢
  clear h hb hx hW hs hz hP hR
  go_enter Try.func21, Try.ntmps21
  go_wp2_with fail
  rw [HW.out]
  with_reducible refine hc.mono ?_
  rintro e X ⟨rfl, hX⟩
  have x0 : X.cell? ⟨w.heap.size, 0, none⟩ = some (.string nm) := (HX0.out.of_block (hX.block _ HX0.out.lt)).cell 0
  have x1 : X.cell? ⟨w.heap.size, 1, none⟩ = some (.bool dr) := (HX0.out.of_block (hX.block _ HX0.out.lt)).cell 1
  have x2 : X.cell? ⟨w.heap.size, 2, none⟩ = some (.slice ka kl kc) := (HX0.out.of_block (hX.block _ HX0.out.lt)).cell 2
  have xl : w.heap.size < X.heap.size := (HX0.out.of_block (hX.block _ HX0.out.lt)).lt
  have hap := HA.out X hX
  clear hX HA HX0 hc HW
  go_wp2_with fail
  with_reducible refine hap.mono ?_
  rintro e Y ⟨a, c, rfl, HY⟩
  clear hap x0 x1 x2 xl
  go_wp2
  go_loopw [14] (fun u wr => ∃ i : Nat, i ≤ P.length ∧ u = .int .i64 (i : Int) ∧ Hid (okA (P.take i) = true) ∧ Hid (wr.ownsRow w.heap.size 87 3 (.slice a P.length c) P.length (plcC P) ∧ Below w.heap.size w wr)) (fun u _ => P.length - (intOf u).toNat)
  case atStart => exact ⟨0, by omega, rfl, rfl, HY⟩
  case round =>
    obtain ⟨i, hi, rfl, HO, HS⟩ := hrel
    clear HY
    by_cases hlt : i < P.length
    · obtain ⟨p, hp⟩ : ∃ p, P[i]? = some p := ⟨_, List.getElem?_eq_getElem hlt⟩
      obtain ⟨g, rfl, hg, c0, c1, c2⟩ := row_plc HS.out.1 i p hp
      have hlt9 : (i : Int) < (P.length : Int) := by omega
      have HB1 : Hid (Below wr.heap.size wr (wr.alloc (.cells #[.string p.nm, .int .i64 p.up, .bool p.dr] 87))) := (Below.refl _ _).alloc (Nat.le_refl _) _
      have HG : Hid (∀ X, Below wr.heap.size wr X → X.ownsRow w.heap.size 87 3 (.slice (some ⟨g, 0, none⟩) P.length c) P.length (plcC P) ∧ Below w.heap.size w X) := fun X hX => ⟨own_bel HS.out.1 hX, HS.out.2.trans (hX.mono HS.out.2.size)⟩
      have HT : Hid (okA (P.take (i + 1)) = (okA (P.take i) && okN p.nm)) := okA_take hp
      have HF : Hid (okN p.nm = false → okA P = false) := okA_no hp
      have hn := name_any (wr.alloc (.cells #[.string p.nm, .int .i64 p.up, .bool p.dr] 87)) p.nm
      clear hp HS
      cases hE : p.nm.toList.isEmpty
      · cases hN : nameL p.nm.data.toList
        · rw [hN] at hn
          have hno : okN p.nm = false := by unfold okN; rw [hE, hN]; rfl
          have hq : R = [] ∧ y = 6 := by
            rcases HR.out with h | h
            · rw [HF.out hno] at h; cases h.1
            · exact h.2
          obtain ⟨rfl, rfl⟩ := hq
          clear HF HT HO HR hno
          go_wp2_with fail
          with_reducible refine hn.mono ?_
          rintro e X ⟨rfl, hX⟩
          have HX := HQ.out none 0 X (own_none _ _ _ _) (HG.out X (HB1.out.trans (hX.mono HB1.out.size))).2
          clear hX hn HG HQ HB1
          go_wp2
          exact HX
        · rw [hN] at hn
          have hyes : okN p.nm = true := by unfold okN; rw [hN]; simp
          have HO2 : Hid (okA (P.take (i + 1)) = true) := by show _ = _; rw [HT.out, HO.out, hyes]; rfl
          clear HF HT HO hyes
          go_wp2_with fail
          with_reducible refine hn.mono ?_
          rintro e X ⟨rfl, hX⟩
          have HX : Hid _ := HG.out X (HB1.out.trans (hX.mono HB1.out.size))
          clear hX hn HG HB1
          go_wp2
          go_roundw
          case rel => exact ⟨i + 1, by omega, by go_num, HO2, HX⟩
          case measure => simp [intOf]; omega
      · have hyes : okN p.nm = true := by unfold okN; rw [hE]; rfl
        have HO2 : Hid (okA (P.take (i + 1)) = true) := by show _ = _; rw [HT.out, HO.out, hyes]; rfl
        have HX : Hid _ := HG.out _ HB1.out
        clear HF HT HO hyes hn HG HB1
        go_wp2
        go_roundw
        case rel => exact ⟨i + 1, by omega, by go_num, HO2, HX⟩
        case measure => simp [intOf]; omega
    · have hq : R = P ∧ y = 0 := by
        have h1 := HO.out
        rw [List.take_of_length_le (by omega)] at h1
        rcases HR.out with h | h
        · exact h.2
        · rw [h1] at h; cases h.1
      obtain ⟨rfl, rfl⟩ := hq
      have HX := HQ.out a c wr HS.out.1 HS.out.2
      clear HQ HR HO
      go_wp2
      exact HX
theorem places_any {n : Nat} (w : World) {nm : ByteArray} {dr : Bool} {ka : Option Addr} {kl kc : Nat} {t : TP n} (h : TwAt w w.heap.size n #[.string nm, .bool dr, .slice ka kl kc] t) :
    Calls Try.prog 21 #[.agg #[.string nm, .bool dr, .slice ka kl kc]] w (PlsQ w (plA n t) (chkT n t)) := by
  unfold plA chkT
  by_cases hs : 16 < szT n t
  · rw [if_pos hs, if_neg (by decide)]
    exact places_big w h hs
  · rw [if_neg hs]
    refine places_small w h (by omega) _ rfl _ _ ?_
    rw [okA_plT]
    cases nmT n t
    · exact .inr ⟨rfl, by simp, rfl⟩
    · exact .inl ⟨rfl, by simp, rfl⟩

end Go.Proofs.Ytmeinebfdljndaa
