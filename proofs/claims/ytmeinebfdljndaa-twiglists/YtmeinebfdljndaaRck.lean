/- What is wrong with a pattern, and its nodes: the document's named, Check and Nodes. -/
import Derived.Test.YtmeinebfdljndaaChk
namespace Go.Proofs.Ytmeinebfdljndaa
open Go.RowKit
set_option linter.unusedVariables false

def NamP (n : Nat) : Prop := ∀ (w : World) (v : Array Value) (t : TP n), TwAt w w.heap.size n v t →
  Calls Try.prog 30 #[.agg v] w fun e w' => e = .returned (.bool (nmT n t)) ∧ Below w.heap.size w w'

set_option maxRecDepth 100000 in
set_option maxHeartbeats 4000000 in
theorem named_step {n : Nat} (ih : NamP n) (w : World) (nm : ByteArray) (dr : Bool) (ks : List (TP n)) (ka : Option Addr) (kc : Nat) (hk1 : ks.length ≤ maxT) (hkd : KdAt w w.heap.size n ka ks) (R : Bool) (hR : (okN nm && ks.all (nmT n)) = R) :
    Calls Try.prog 30 #[.agg #[.string nm, .bool dr, .slice ka ks.length kc]] w fun e w' => e = .returned (.bool R) ∧ Below w.heap.size w w' := by
  obtain ⟨W, hW⟩ : ∃ W, (w.alloc (.cells #[.string nm, .bool dr, .slice ka ks.length kc] 24)) = W := ⟨_, rfl⟩
  have hb : Below w.heap.size w W := by rw [← hW]; exact (Below.refl _ _).alloc (Nat.le_refl _) _
  have hx : IsCells W w.heap.size #[.string nm, .bool dr, .slice ka ks.length kc] := by rw [← hW]; exact isCells_new _ _ _
  have hn := rname_any W nm
  have HKD : Hid (KdAt w w.heap.size n ka ks) := hkd
  have HW : Hid ((w.alloc (.cells #[.string nm, .bool dr, .slice ka ks.length kc] 24)) = W) := hW
  have HX0 : Hid (Below w.heap.size w W ∧ IsCells W w.heap.size #[.string nm, .bool dr, .slice ka ks.length kc]) := ⟨hb, hx⟩
  have HL : Hid (okN nm = true → Calls Try.prog 30 #[.agg #[.string nm, .bool dr, .slice ka ks.length kc]] w (fun e w' => e = .returned (.bool R) ∧ Below w.heap.size w w')) := by
    intro hyes
    have HR : Hid (ks.all (nmT n) = R) := by show _ = _; rw [← hR, hyes]; rfl
    clear hR hkd hb hx hW
    unfold maxT at hk1
    have hcond : nm.toList.isEmpty = true ∨ (nm.toList.isEmpty = false ∧ nameL nm.data.toList = true) := by
      unfold okN at hyes
      cases h1 : nm.toList.isEmpty
      · rw [h1] at hyes
        exact .inr ⟨rfl, by simpa using hyes⟩
      · exact .inl rfl
    clear hyes
    rcases hcond with hE | ⟨hE, hN⟩
    · clear hn
      go_enter Try.func30, Try.ntmps30
      go_wp2
      rw [HW.out]
      go_loopw [3] (fun u wr => ∃ i : Nat, i ≤ ks.length ∧ u = .int .i64 (i : Int) ∧ Hid ((ks.take i).all (nmT n) = true) ∧ Hid (Below w.heap.size w wr ∧ IsCells wr w.heap.size #[.string nm, .bool dr, .slice ka ks.length kc])) (fun u _ => ks.length - (intOf u).toNat)
      case atStart => exact ⟨0, by omega, rfl, rfl, HX0⟩
      case round =>
        obtain ⟨i, hi, rfl, HO, HS⟩ := hrel
        have x2 : wr.cell? ⟨w.heap.size, 2, none⟩ = some (.slice ka ks.length kc) := HS.out.2.cell 2
        have xl : w.heap.size < wr.heap.size := HS.out.2.lt
        by_cases hlt : i < ks.length
        · have hlt9 : (i : Int) < (ks.length : Int) := by omega
          obtain ⟨k, hk⟩ : ∃ k, ks[i]? = some k := ⟨_, List.getElem?_eq_getElem hlt⟩
          obtain ⟨b, o, nm', dr', ka', kl, kc', rfl, hb, c0, c1, c2, htw⟩ := HKD.out.call HS.out.1 hk
          have hbw : b < wr.heap.size := by omega
          have hcl := ih wr _ k (htw _ HS.out.1)
          have HG : Hid (∀ X, Below wr.heap.size wr X → Below w.heap.size w X ∧ IsCells X w.heap.size #[.string nm, .bool dr, .slice (some ⟨b, o, none⟩) ks.length kc]) := fun X hX => ⟨HS.out.1.trans (hX.mono HS.out.1.size), HS.out.2.of_block (hX.block _ xl)⟩
          have HT : Hid ((ks.take (i + 1)).all (nmT n) = nmT n k) := by show _ = _; rw [take_snoc hk, List.all_append, HO.out]; simp
          have HF : Hid (nmT n k = false → R = false) := fun h => by rw [← HR.out, List.all_eq_false]; exact ⟨k, List.mem_of_getElem? hk, by simp [h]⟩
          cases hq : nmT n k
          · have hR0 := HF.out hq
            subst hR0
            rw [hq] at hcl
            clear htw hk HO HT HF hq HR
            go_wp2_with fail
            with_reducible refine hcl.mono ?_
            rintro e X ⟨rfl, hbX⟩
            have HX : Hid _ := HG.out X hbX
            clear hbX hcl
            go_wp2
            go_ret
            exact ⟨rfl, HX.out.1⟩
          · rw [hq] at hcl
            have HO2 : Hid ((ks.take (i + 1)).all (nmT n) = true) := by show _ = _; rw [HT.out, hq]
            clear htw hk HO HT HF hq
            go_wp2_with fail
            with_reducible refine hcl.mono ?_
            rintro e X ⟨rfl, hbX⟩
            have HX : Hid _ := HG.out X hbX
            clear hbX hcl
            go_wp2
            go_roundw
            case rel => exact ⟨i + 1, by omega, by go_num, HO2, HX⟩
            case measure => simp [intOf]; omega
        · have hlt9 : ¬ (i : Int) < (ks.length : Int) := by omega
          have hfin : R = true := by
            have h1 := HO.out
            rw [List.take_of_length_le (by omega), HR.out] at h1
            exact h1
          subst hfin
          go_wp2
          go_ret
          exact ⟨rfl, HS.out.1⟩
    · rw [hN] at hn
      go_enter Try.func30, Try.ntmps30
      go_wp2_with fail
      rw [HW.out]
      with_reducible refine hn.mono ?_
      rintro e X ⟨rfl, rfl⟩
      go_wp2
      go_loopw [3] (fun u wr => ∃ i : Nat, i ≤ ks.length ∧ u = .int .i64 (i : Int) ∧ Hid ((ks.take i).all (nmT n) = true) ∧ Hid (Below w.heap.size w wr ∧ IsCells wr w.heap.size #[.string nm, .bool dr, .slice ka ks.length kc])) (fun u _ => ks.length - (intOf u).toNat)
      case atStart => exact ⟨0, by omega, rfl, rfl, HX0⟩
      case round =>
        obtain ⟨i, hi, rfl, HO, HS⟩ := hrel
        have x2 : wr.cell? ⟨w.heap.size, 2, none⟩ = some (.slice ka ks.length kc) := HS.out.2.cell 2
        have xl : w.heap.size < wr.heap.size := HS.out.2.lt
        by_cases hlt : i < ks.length
        · have hlt9 : (i : Int) < (ks.length : Int) := by omega
          obtain ⟨k, hk⟩ : ∃ k, ks[i]? = some k := ⟨_, List.getElem?_eq_getElem hlt⟩
          obtain ⟨b, o, nm', dr', ka', kl, kc', rfl, hb, c0, c1, c2, htw⟩ := HKD.out.call HS.out.1 hk
          have hbw : b < wr.heap.size := by omega
          have hcl := ih wr _ k (htw _ HS.out.1)
          have HG : Hid (∀ X, Below wr.heap.size wr X → Below w.heap.size w X ∧ IsCells X w.heap.size #[.string nm, .bool dr, .slice (some ⟨b, o, none⟩) ks.length kc]) := fun X hX => ⟨HS.out.1.trans (hX.mono HS.out.1.size), HS.out.2.of_block (hX.block _ xl)⟩
          have HT : Hid ((ks.take (i + 1)).all (nmT n) = nmT n k) := by show _ = _; rw [take_snoc hk, List.all_append, HO.out]; simp
          have HF : Hid (nmT n k = false → R = false) := fun h => by rw [← HR.out, List.all_eq_false]; exact ⟨k, List.mem_of_getElem? hk, by simp [h]⟩
          cases hq : nmT n k
          · have hR0 := HF.out hq
            subst hR0
            rw [hq] at hcl
            clear htw hk HO HT HF hq HR
            go_wp2_with fail
            with_reducible refine hcl.mono ?_
            rintro e X ⟨rfl, hbX⟩
            have HX : Hid _ := HG.out X hbX
            clear hbX hcl
            go_wp2
            go_ret
            exact ⟨rfl, HX.out.1⟩
          · rw [hq] at hcl
            have HO2 : Hid ((ks.take (i + 1)).all (nmT n) = true) := by show _ = _; rw [HT.out, hq]
            clear htw hk HO HT HF hq
            go_wp2_with fail
            with_reducible refine hcl.mono ?_
            rintro e X ⟨rfl, hbX⟩
            have HX : Hid _ := HG.out X hbX
            clear hbX hcl
            go_wp2
            go_roundw
            case rel => exact ⟨i + 1, by omega, by go_num, HO2, HX⟩
            case measure => simp [intOf]; omega
        · have hlt9 : ¬ (i : Int) < (ks.length : Int) := by omega
          have hfin : R = true := by
            have h1 := HO.out
            rw [List.take_of_length_le (by omega), HR.out] at h1
            exact h1
          subst hfin
          go_wp2
          go_ret
          exact ⟨rfl, HS.out.1⟩
  cases hyes : okN nm
  · have hR2 : R = false := by rw [← hR, hyes]; rfl
    subst hR2
    unfold okN at hyes
    simp only [Bool.or_eq_false_iff] at hyes
    obtain ⟨hE, hN⟩ := hyes
    rw [hN] at hn
    clear HL hR hb hx hkd hW
    go_enter Try.func30, Try.ntmps30
    go_wp2_with fail
    rw [HW.out]
    with_reducible refine hn.mono ?_
    rintro e X ⟨rfl, rfl⟩
    go_wp2
    go_ret
    exact ⟨rfl, HX0.out.1⟩
  · exact HL.out hyes
theorem named_any : ∀ n, NamP n
  | 0 => fun w v t h => h.elim
  | n + 1 => by
    intro w v t h
    obtain ⟨ka, kc, rfl, hk1, hk2, hkd⟩ := h
    exact named_step (named_any n) w t.nm t.dr t.ks ka kc hk1 hkd _ rfl

set_option maxRecDepth 100000 in
set_option maxHeartbeats 2000000 in
theorem rcheck_any {n : Nat} (w : World) {nm : ByteArray} {dr : Bool} {ka : Option Addr} {kl kc : Nat} {t : TP n} (h : TwAt w w.heap.size n #[.string nm, .bool dr, .slice ka kl kc] t) :
    Calls Try.prog 10 #[.agg #[.string nm, .bool dr, .slice ka kl kc]] w fun e w' => e = .returned (.int .i64 (chkT n t)) ∧ Below w.heap.size w w' := by
  obtain ⟨W, hW⟩ : ∃ W, (w.alloc (.cells #[.string nm, .bool dr, .slice ka kl kc] 24)) = W := ⟨_, rfl⟩
  have hb : Below w.heap.size w W := by rw [← hW]; exact (Below.refl _ _).alloc (Nat.le_refl _) _
  have hx : IsCells W w.heap.size #[.string nm, .bool dr, .slice ka kl kc] := by rw [← hW]; exact isCells_new _ _ _
  have hc := rsize_any n W _ t ((h.below hb (Nat.le_refl _)).mono hb.size)
  have HN : Hid (∀ X, Below W.heap.size W X → Calls Try.prog 30 #[.agg #[.string nm, .bool dr, .slice ka kl kc]] X fun e Y => e = .returned (.bool (nmT n t)) ∧ Hid (Below w.heap.size w Y)) := fun X hX => by
    have bX : Below w.heap.size w X := hb.trans (hX.mono hb.size)
    refine (named_any n X _ t ((h.below bX (Nat.le_refl _)).mono bX.size)).mono ?_
    rintro e Y ⟨rfl, hY⟩
    exact ⟨rfl, bX.trans (hY.mono bX.size)⟩
  have HW : Hid ((w.alloc (.cells #[.string nm, .bool dr, .slice ka kl kc] 24)) = W) := hW
  have HX0 : Hid (Below w.heap.size w W ∧ IsCells W w.heap.size #[.string nm, .bool dr, .slice ka kl kc]) := ⟨hb, hx⟩
  have hchk : (16 < szT n t ∧ chkT n t = 120) ∨ (szT n t ≤ 16 ∧ chkT n t = if nmT n t then 0 else 6) := by
    unfold chkT
    by_cases h1 : 16 < szT n t
    · exact .inl ⟨h1, by rw [if_pos h1]⟩
    · exact .inr ⟨by omega, by rw [if_neg h1]⟩
  generalize chkT n t = y at hchk ⊢
  clear h hb hx hW
  rcases hchk with ⟨h1, rfl⟩ | ⟨h1, rfl⟩
  · rw [show min (szT n t) 17 = 17 by omega] at hc
    clear h1 HN
    go_enter Try.func10, Try.ntmps10
    go_wp2_with fail
    rw [HW.out]
    with_reducible refine hc.mono ?_
    rintro e X ⟨rfl, hX⟩
    have HX : Hid (Below w.heap.size w X) := HX0.out.1.trans (hX.mono HX0.out.1.size)
    clear hX hc
    go_wp2
    go_ret
    exact ⟨rfl, HX.out⟩
  · obtain ⟨z, hz⟩ : ∃ z, min (szT n t) 17 = z := ⟨_, rfl⟩
    have hz9 : (z : Int) ≤ 16 := by omega
    rw [hz] at hc
    clear h1 hz
    generalize nmT n t = q at HN ⊢
    go_enter Try.func10, Try.ntmps10
    go_wp2_with fail
    rw [HW.out]
    with_reducible refine hc.mono ?_
    rintro e X ⟨rfl, hX⟩
    have x0 : X.cell? ⟨w.heap.size, 0, none⟩ = some (.string nm) := (HX0.out.2.of_block (hX.block _ HX0.out.2.lt)).cell 0
    have x1 : X.cell? ⟨w.heap.size, 1, none⟩ = some (.bool dr) := (HX0.out.2.of_block (hX.block _ HX0.out.2.lt)).cell 1
    have x2 : X.cell? ⟨w.heap.size, 2, none⟩ = some (.slice ka kl kc) := (HX0.out.2.of_block (hX.block _ HX0.out.2.lt)).cell 2
    have xl : w.heap.size < X.heap.size := (HX0.out.2.of_block (hX.block _ HX0.out.2.lt)).lt
    have hq := HN.out X hX
    clear hX hc HN
    cases q <;> (
      go_wp2_with fail
      with_reducible refine hq.mono ?_
      rintro e Y ⟨rfl, HY⟩
      clear hq x0 x1 x2 xl
      go_wp2
      go_ret
      exact ⟨rfl, HY.out⟩)

set_option maxRecDepth 100000 in
set_option maxHeartbeats 2000000 in
theorem nodes_any {n : Nat} (w : World) {nm : ByteArray} {dr : Bool} {ka : Option Addr} {kl kc : Nat} {t : TP n} (h : TwAt w w.heap.size n #[.string nm, .bool dr, .slice ka kl kc] t) (hs : szT n t ≤ 16) (P : List Plc) (hP : plT n t (-1) 0 = P) :
    Calls Try.prog 29 #[.agg #[.string nm, .bool dr, .slice ka kl kc]] w fun e w' => ∃ a c, e = .returned (.slice a P.length c) ∧ w'.ownsRow w.heap.size 73 3 (.slice a P.length c) P.length (ndC P) ∧ Below w.heap.size w w' := by
  obtain ⟨W, hW⟩ : ∃ W, (w.alloc (.cells #[.string nm, .bool dr, .slice ka kl kc] 24)) = W := ⟨_, rfl⟩
  have hb : Below w.heap.size w W := by rw [← hW]; exact (Below.refl _ _).alloc (Nat.le_refl _) _
  have hc : Calls Try.prog 47 #[.agg #[.string nm, .bool dr, .slice ka kl kc], .int .i64 (-1), .slice none 0 0] W fun e Y => ∃ a c, e = .returned (.slice a P.length c) ∧ Hid (Y.ownsRow w.heap.size 73 3 (.slice a P.length c) P.length (ndC P) ∧ Below w.heap.size w Y) := by
    refine (nod_any n W _ t (-1) W.heap.size W.heap.size none 0 [] ((h.below hb (Nat.le_refl _)).mono hb.size) (Nat.le_refl _) (Nat.le_refl _) (own_none _ _ _ _) (by simp; omega)).mono ?_
    rintro e Y ⟨a, c, he, h1, h2⟩
    rw [List.nil_append, List.length_nil, hP] at he h1 h2
    exact ⟨a, c, he, own_less h1 hb.size, hb.trans ((h2.below (Nat.le_refl _) (fun k hk => by cases hk)).mono hb.size)⟩
  have HW : Hid ((w.alloc (.cells #[.string nm, .bool dr, .slice ka kl kc] 24)) = W) := hW
  clear h hb hW hs hP
  go_enter Try.func29, Try.ntmps29
  go_wp2_with fail
  rw [HW.out]
  with_reducible refine hc.mono ?_
  rintro e Y ⟨a, c, rfl, HY⟩
  clear hc
  go_wp2
  go_ret
  exact ⟨a, c, rfl, HY.out⟩

end Go.Proofs.Ytmeinebfdljndaa
