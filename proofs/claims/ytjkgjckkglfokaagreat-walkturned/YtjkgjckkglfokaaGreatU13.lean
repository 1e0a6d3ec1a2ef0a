/- Move of the program. -/
import Derived.Test.YtjkgjckkglfokaaGreatU01
import Derived.Test.YtjkgjckkglfokaaGreatU10
import Derived.Test.YtjkgjckkglfokaaGreatU12
namespace Go.Proofs.YtjkgjckkglfokaaGreat.Gr
open Go.RowKit
set_option linter.unusedVariables false
set_option linter.unusedSimpArgs false
set_option maxRecDepth 100000
set_option maxHeartbeats 2000000
theorem link_any (w : World) (ro : Nat -> Nat) (db : Nat) (D : Dc) (n a p : Nat) (wh : Int) (hd : PDoc w ro db D) (hf : Fits D) (hal : a < 18446744073709551616) (hpl : p < 18446744073709551616) (hpp : p = 0 \/ ∃ s, sl D p = some s) (hll : (lst D p).length <= 4096) (har : arD D wh a = p)
  (hwh : wh = 1 \/ wh = 2 \/ ((wh = 3 \/ wh = 4) /\ a ∈ lst D p /\ ∃ s, sl D a = some s)) :
  Calls Tryz.prog 92 #[.pointer (some ⟨db, 0, none⟩), .int .u64 (n : Int), .int .i64 wh, .int .u64 (a : Int)] w (LinkP w ro db (setL D p (ins (lst D p) (whereN (lst D p) wh a) n))) := by
 rcases hwh with rfl | rfl | ⟨rfl | rfl, hm, hs⟩
 ·exact link_first w ro db D n a p hd hf hal hpl hpp hll har
 ·exact link_last w ro db D n a p hd hf hal hpl hpp hll har
 ·exact link_before w ro db D n a p hd hf hal hpl hpp hll har hm hs
 ·exact link_after w ro db D n a p hd hf hal hpl hpp hll har hm hs
theorem setL_setPar {E : Dc} {n p q : Nat} {s : Sl} {l' : List Nat} (hs : sl E n = some s) : setL (setPar E n p) q l' = setPar (setL E q l') n p := by
 obtain ⟨i, ha, hi, e⟩ := setPar_of (p := p) hs
 have hil := (List.getElem?_eq_some_iff.1 hi).1
 by_cases h0 : q = 0
 ·subst h0
  rw [setL_zero, setL_zero, e]
  have h2 : sl { E with roots := l' } n = some s := hs
  obtain ⟨i2, ha2, hi2, e2⟩ := setPar_of (p := p) h2
  rw [e2]
  have : i2 = i := by
   have h3 : atI E.S n = some i2 := ha2
   rw [ha] at h3
   cases h3
   rfl
  subst this
  rfl
 ·cases hq : atI E.S q with
  | none =>
   have e1 : setL E q l' = E := by simp only [setL, if_neg h0, hq]
   have hq2 : atI (setPar E n p).S q = none := by
    rw [e]
    show atI (E.S.set i _) q = none
    rw [atI_set_same (j := 0) (s' := { s with parent := p }) hi rfl rfl]
    exact hq
   have e2 : setL (setPar E n p) q l' = setPar E n p := by simp only [setL, if_neg h0, hq2]
   rw [e1, e2]
  | some j =>
   obtain ⟨t, ht, htl, _⟩ := atI_some hq
   have hjl := (List.getElem?_eq_some_iff.1 ht).1
   have hq2 : atI (setPar E n p).S q = some j := by
    rw [e]
    show atI (E.S.set i _) q = some j
    rw [atI_set_same (j := 0) (s' := { s with parent := p }) hi rfl rfl]
    exact hq
   rw [setL_some h0 hq ht]
   obtain ⟨s2, h2, _⟩ := sl_setL_into (p := q) (l' := l') hs
   rw [setL_some h0 hq ht] at h2
   obtain ⟨i2, ha2, hi2, e2⟩ := setPar_of (p := p) h2
   have hii : i2 = i := by
    have h3 : atI (E.S.set j { t with kids := l' }) n = some i2 := ha2
    rw [atI_set_same (j := 0) (s' := { t with kids := l' }) ht rfl rfl, ha] at h3
    cases h3
    rfl
   subst hii
   rw [e2]
   have hi2' : (E.S.set j { t with kids := l' })[i2]? = some s2 := hi2
   by_cases hij : j = i2
   ·subst hij
    rw [hi] at ht
    cases ht
    rw [List.getElem?_set_self hjl] at hi2'
    cases hi2'
    rw [setL_some (D := setPar E n p) h0 hq2 (by rw [e]; exact List.getElem?_set_self hjl), e]
    simp [setS]
   ·rw [List.getElem?_set_ne hij, hi] at hi2'
    cases hi2'
    rw [setL_some (D := setPar E n p) (s := t) h0 hq2 (by rw [e]; show (E.S.set i2 _)[j]? = some t; rw [List.getElem?_set_ne (Ne.symm hij)]; exact ht), e]
    show ({ setS E i2 _ with S := (E.S.set i2 { s with parent := p }).set j { t with kids := l' } } : Dc) = { E with S := (E.S.set j { t with kids := l' }).set i2 { s with parent := p } }
    rw [List.set_comm _ _ (Ne.symm hij)]
    rfl
theorem movD_eq {D : Dc} (hw : WF D) {n a : Nat} {wh : Int} {s : Sl} (hpl : isPlaceB wh a = true) (hs : sl D n = some s) (hla : liveB D a = true) (hup : (ups D a).contains n = false) :
  movD D n wh a = if fitsE D (arD D wh a) (hgt D n) = 0 then (putD (outD D n s) n (arD D wh a) wh a, 0) else (D, fitsE D (arD D wh a) (hgt D n)) := by
 have hlive : a = 0 \/ ∃ t, sl D a = some t := by
  unfold liveB at hla
  by_cases h0 : a = 0
  ·exact .inl h0
  ·right
   simp [h0] at hla
   obtain ⟨i, hi⟩ := Option.isSome_iff_exists.1 hla
   obtain ⟨t, h1, _⟩ := sl_of_at hi
   exact ⟨t, h1⟩
 have h8 : (placeE D wh a).2 ≠ 8 := by
  unfold placeE
  split
  ·simp
  ·rename_i h0
   obtain ⟨t, ht⟩ := hlive.resolve_left h0
   rw [ht]
   simp only
   split
   ·split <;> simp
   ·simp
 have hpl' : ¬ isPlaceB wh a = false := by simp [hpl]
 unfold movD
 rw [if_neg hpl', hs]
 simp only
 rw [if_neg h8, if_neg (by rw [hup]; simp)]
 rcases placeE_err D wh a with he | he | he
 ·obtain ⟨f1, f2, f3, f4⟩ := place_facts hw he hpl
  rw [if_neg (by simp [he]), f3]
  have hno : ¬ ∃ q, sl D (arD D wh a) = some q /\ q.kind = 2 := fun ⟨q, h1, h2⟩ => f1 q (by rw [f3]; exact h1) h2
  unfold fitsE
  rw [if_neg hno]
  by_cases hd : 64 < (ups D (arD D wh a)).length + hgt D n
  ·rw [if_pos hd, if_pos hd, if_neg (by decide)]
  ·rw [if_neg hd, if_neg hd, if_pos rfl]
 ·exact absurd he h8
 ·rw [if_pos (by simp [he]), he]
  have h0 : a ≠ 0 := fun e => by
   subst e
   simp [placeE] at he
  obtain ⟨t, ht⟩ := hlive.resolve_left h0
  have hk : wh <= 2 /\ t.kind = 2 := by
   unfold placeE at he
   rw [if_neg h0, ht] at he
   simp only at he
   by_cases h1 : wh <= 2
   ·by_cases h2 : t.kind = 2
    ·exact ⟨h1, h2⟩
    ·simp [h1, h2] at he
   ·simp [h1] at he
  have har : arD D wh a = a := by unfold arD; rw [if_neg (by omega)]
  have hyes : ∃ q, sl D (arD D wh a) = some q /\ q.kind = 2 := ⟨t, by rw [har]; exact ht, hk.2⟩
  unfold fitsE
  rw [if_pos hyes, if_neg (by decide)]
theorem arD_put {D : Dc} {n a p : Nat} {wh : Int} {s : Sl} (hs : sl D n = some s) (hne : wh = 3 \/ wh = 4 -> a ≠ n) : arD (setPar (outD D n s) n p) wh a = arD D wh a := by
 unfold arD
 split
 ·rename_i h
  have hsE : ∃ t, sl (outD D n s) n = some t := by
   obtain ⟨t, h1, _⟩ := sl_setL_into (p := s.parent) (l' := (lst D s.parent).take (idxH (lst D s.parent) n).toNat ++ (lst D s.parent).drop ((idxH (lst D s.parent) n).toNat + 1)) hs
   exact ⟨t, h1⟩
  obtain ⟨t, ht⟩ := hsE
  unfold par
  rw [sl_setPar ht, if_neg (hne h)]
  unfold outD
  cases ha : sl D a with
  | none =>
   cases hb : sl (setL D s.parent ((lst D s.parent).take (idxH (lst D s.parent) n).toNat ++ (lst D s.parent).drop ((idxH (lst D s.parent) n).toNat + 1))) a with
   | none => rfl
   | some u =>
    obtain ⟨u0, h1, _⟩ := sl_setL_from hb
    rw [ha] at h1
    cases h1
  | some u =>
   obtain ⟨u', h1, h2⟩ := sl_setL_into (p := s.parent) (l' := (lst D s.parent).take (idxH (lst D s.parent) n).toNat ++ (lst D s.parent).drop ((idxH (lst D s.parent) n).toNat + 1)) ha
   rw [h1]
   exact h2
 ·rfl
theorem Fits.setS {D : Dc} (hf : Fits D) {i : Nat} {s s' : Sl} (hs : D.S[i]? = some s) (hg : s'.gen = s.gen) : Fits (setS D i s') := by
 refine ⟨by simp [Gr.setS]; exact hf.len, fun j t ht => ?_⟩
 have ht' : (D.S.set i s')[j]? = some t := ht
 by_cases e : i = j
 ·subst e
  rw [List.getElem?_set_self (List.getElem?_eq_some_iff.1 hs).1] at ht'
  cases ht'
  rw [hg]
  exact hf.gen i s hs
 ·rw [List.getElem?_set_ne e] at ht'
  exact hf.gen j t ht'
theorem PDoc.parent {w : World} {ro : Nat -> Nat} {db : Nat} {E : Dc} (hd : PDoc w ro db E) {n p i : Nat} {s : Sl} (hs : sl E n = some s) (ha : atI E.S n = some i) (hi : E.S[i]? = some s) :
  ∃ g scap, w.cell? ⟨db, 0, none⟩ = some (.slice (some ⟨g, 0, none⟩) E.S.length scap) /\ ro g ≠ 0 /\ g < w.heap.size /\ ∀ W, Below w.heap.size w W -> (∃ u, W.cell? ⟨g, i * 8 + 6, none⟩ = some (.int .u64 u)) /\ W.frozen? ⟨g, i * 8 + 6, none⟩ = false /\ PDoc (W.setCell ⟨g, i * 8 + 6, none⟩ (.int .u64 (p : Int))) ro db (setPar E n p) := by
 obtain ⟨sa, scap, ra, rcap, L, h⟩ := hd
 obtain ⟨g, q, rfl, hg2, hq, hcap, hhd, hcl⟩ := h.slot hi
 refine ⟨g, scap, hhd, by omega, h.lt g (by omega), fun W hW => ?_⟩
 have h' := h.below hW
 obtain ⟨g', q', e, _, hq', _, _, hcl'⟩ := h'.slot hi
 cases e
 obtain ⟨i', ha', hi', e⟩ := setPar_of (p := p) hs
 rw [ha] at ha'
 cases ha'
 refine ⟨⟨_, (hcl' 6 _ rfl).1⟩, (hcl' 6 _ rfl).2, ?_⟩
 rw [e]
 exact ⟨_, _, _, _, _, h'.store (s' := { s with parent := p }) hi hq' (by omega) rfl rfl rfl rfl⟩
structure PE (w : World) (ro : Nat -> Nat) (db : Nat) (D' : Dc) (w' : World) (ro' : Nat -> Nat) : Prop where
 turn : Turn (fun b => ro b ≠ 0) w w'
 doc : PDoc w' ro' db D'
 from' : ∀ b, ro' b ≠ 0 -> ro b ≠ 0 \/ w.heap.size <= b
theorem PE.refl {w w' : World} {ro : Nat -> Nat} {db : Nat} {D : Dc} (h : PDoc w ro db D) (hb : Below w.heap.size w w') : PE w ro db D w' ro := by
 obtain ⟨sa, scap, ra, rcap, L, h⟩ := h
 exact ⟨(below_turn hb).mono (fun _ _ h => h.elim), ⟨sa, scap, ra, rcap, L, h.below hb⟩, fun b hb => .inl hb⟩
theorem PE.trans {w w1 w2 : World} {ro ro1 ro2 : Nat -> Nat} {db : Nat} {D E : Dc} (h : PE w ro db D w1 ro1) (k : PE w1 ro1 db E w2 ro2) : PE w ro db E w2 ro2 := by
 refine ⟨⟨k.turn.os.trans h.turn.os, k.turn.tape.trans h.turn.tape, k.turn.output.trans h.turn.output, Nat.le_trans h.turn.size k.turn.size, fun b hb hn => ?_⟩, k.doc, fun b hb => ?_⟩
 ·rw [k.turn.block b (Nat.lt_of_lt_of_le hb h.turn.size) (fun h1 => ?_), h.turn.block b hb hn]
  rcases h.from' b h1 with h2 | h2
  ·exact hn h2
  ·omega
 ·rcases k.from' b hb with h1 | h1
  ·exact h.from' b h1
  ·exact .inr (Nat.le_trans h.turn.size h1)
theorem PE.below {w w1 w2 : World} {ro ro1 : Nat -> Nat} {db : Nat} {D : Dc} (h : PE w ro db D w1 ro1) (hb : Below w1.heap.size w1 w2) : PE w ro db D w2 ro1 := h.trans (PE.refl h.doc hb)
theorem PE.post {w w1 : World} {ro ro1 : Nat -> Nat} {db : Nat} {D : Dc} {z : Int} (h : PE w ro db D w1 ro1) : PPost w ro db D z (.returned (.int .i64 z)) w1 := ⟨rfl, h.turn, ro1, h.doc, h.from'⟩
theorem LinkP.pe {w w1 : World} {ro : Nat -> Nat} {db : Nat} {D : Dc} {e : Ending} (h : LinkP w ro db D e w1) : e = .returned (.tuple #[]) /\ ∃ ro1, PE w ro db D w1 ro1 := by
 obtain ⟨h1, h2, ro1, h3, h4⟩ := h
 exact ⟨h1, ro1, h2, h3, h4⟩
theorem PE.cell {w w1 : World} {ro ro1 : Nat -> Nat} {db : Nat} {D E : Dc} (h : PE w ro db D w1 ro1) {g o : Nat} {u : Value} (hg : ro1 g ≠ 0) (hd : PDoc (w1.setCell ⟨g, o, none⟩ u) ro1 db E) : PE w ro db E (w1.setCell ⟨g, o, none⟩ u) ro1 :=
 h.trans ⟨Turn.setCell (A := fun b => ro1 b ≠ 0) (Turn.refl _ _) (p := ⟨g, o, none⟩) hg _, hd, fun b hb => .inl hb⟩
theorem pmov_any (w : World) (ro : Nat -> Nat) (db : Nat) (D : Dc) (n a : Nat) (wh : Int) (hd : PDoc w ro db D) (hw : WF D) (hh : n < 18446744073709551616) (hal : a < 18446744073709551616) :
  Calls Tryz.prog 159 #[.pointer (some ⟨db, 0, none⟩), .int .u64 (n : Int), .int .i64 wh, .int .u64 (a : Int)] w (PPost w ro db (movD D n wh a).1 (movD D n wh a).2) := by
 have hv := hd.view
 have hpc := isPlace_any w wh a
 have HD := hid hd
 cases hpl : isPlaceB wh a with
 | false =>
  have e1 : movD D n wh a = (D, 1) := by simp [movD, hpl]
  rw [e1]
  rw [hpl] at hpc
  clear hd hv
  go_enter Tryz.func159, Tryz.ntmps159
  go_wp2_with fail
  refine hpc.mono ?_
  rintro e w1 ⟨rfl, rfl⟩
  clear hpc
  go_wp2
  go_ret
  exact ppost_same HD.out (Below.refl _ _)
 | true =>
  rw [hpl] at hpc
  cases hs : sl D n with
  | none =>
   have e1 : movD D n wh a = (D, 8) := by simp [movD, hpl, hs]
   rw [e1]
   have hfd := find_none w _ db D n hv hw.fits hh (sl_none hs)
   clear hd hv hs
   go_enter Tryz.func159, Tryz.ntmps159
   go_wp2_with fail
   refine hpc.mono ?_
   rintro e w1 ⟨rfl, rfl⟩
   clear hpc
   go_wp2_with fail
   refine hfd.mono ?_
   rintro e w1' ⟨rfl, hb⟩
   have HB := hid hb
   clear hfd hb
   go_wp2
   go_ret
   exact ppost_same HD.out HB.out
  | some s =>
   obtain ⟨i, hai, hi, -, -⟩ := sl_live hs
   obtain ⟨sa, scap, ra, rcap, L, hpd⟩ := hd
   obtain ⟨g, q, rfl, -, -, -, hhd, -⟩ := hpd.slot hi
   have hfd := find_some w _ db D n i hv hw.fits hh hai g 0 scap hhd
   rw [Nat.zero_add] at hfd
   have hlv := fun W (hb : Below w.heap.size w W) => isLive_any W _ db D a (hv.below hb) hw.fits hal
   cases hla : liveB D a with
   | false =>
    have e1 : movD D n wh a = (D, 8) := by
     have h0 : a ≠ 0 := fun e => by simp [liveB, e] at hla
     have hn : sl D a = none := by
      cases h : sl D a with
      | none => rfl
      | some t =>
       obtain ⟨j, hj, _⟩ := sl_live h
       simp [liveB, hj] at hla
     have : (placeE D wh a).2 = 8 := by simp [placeE, h0, hn]
     simp [movD, hpl, hs, this]
    rw [e1]
    rw [hla] at hlv
    clear hpd hv hs hhd hai hi
    go_enter Tryz.func159, Tryz.ntmps159
    go_wp2_with fail
    refine hpc.mono ?_
    rintro e w1 ⟨rfl, rfl⟩
    clear hpc
    go_wp2_with fail
    refine hfd.mono ?_
    rintro e w2 ⟨rfl, hb⟩
    have HB2 := hid hb
    have hlv2 := hlv w2 hb
    clear hfd hb hlv
    go_wp2_with fail
    refine hlv2.mono ?_
    rintro e w3 ⟨rfl, hb⟩
    have HB3 := hid (HB2.out.trans (hb.mono HB2.out.size))
    clear hlv2 hb HB2
    go_wp2
    go_ret
    exact ppost_same HD.out HB3.out
   | true =>
    rw [hla] at hlv
    have hlive : a = 0 \/ ∃ t, sl D a = some t := by
     unfold liveB at hla
     by_cases h0 : a = 0
     ·exact .inl h0
     ·right
      simp [h0] at hla
      obtain ⟨j, hj⟩ := Option.isSome_iff_exists.1 hla
      obtain ⟨t, h1, _⟩ := sl_of_at hj
      exact ⟨t, h1⟩
    have hls := fun W (hb : Below w.heap.size w W) z (hz : (ups D a).contains n = z) => lies_any W _ db D a n (hv.below hb) hw hlive z hz
    cases hup : (ups D a).contains n with
    | true =>
     have e1 : movD D n wh a = (D, 34) := by
      have h8 : (placeE D wh a).2 ≠ 8 := by
       unfold placeE
       split
       ·simp
       ·rename_i h0
        obtain ⟨t, ht⟩ := hlive.resolve_left h0
        rw [ht]
        simp only
        split
        ·split <;> simp
        ·simp
      unfold movD
      rw [if_neg (by simp [hpl]), hs]
      simp only
      rw [if_neg h8, if_pos hup]
     rw [e1]
     have hls' := fun W hb => hls W hb true hup
     clear hpd hv hs hhd hai hi hls
     go_enter Tryz.func159, Tryz.ntmps159
     go_wp2_with fail
     refine hpc.mono ?_
     rintro e w1 ⟨rfl, rfl⟩
     clear hpc
     go_wp2_with fail
     refine hfd.mono ?_
     rintro e w2 ⟨rfl, hb⟩
     have HB2 := hid hb
     have hlv2 := hlv w2 hb
     clear hfd hb hlv
     go_wp2_with fail
     refine hlv2.mono ?_
     rintro e w3 ⟨rfl, hb⟩
     have HB3 := hid (HB2.out.trans (hb.mono HB2.out.size))
     clear hlv2 hb HB2
     have hl3 := hls' w3 HB3.out
     go_wp2_with fail
     refine hl3.mono ?_
     rintro e w4 ⟨rfl, hb⟩
     have HB4 := hid (HB3.out.trans (hb.mono HB3.out.size))
     clear hl3 hb hls'
     go_wp2
     go_ret
     exact ppost_same HD.out HB4.out
    | false =>
     rw [movD_eq hw hpl hs hla hup]
     have hls' := fun W hb => hls W hb false hup
     obtain ⟨lv, hlv0⟩ := hw.lev
     have hwl : wh = 3 \/ wh = 4 -> ∃ t, sl D a = some t := fun h => by
      refine hlive.resolve_left (fun e => ?_)
      subst e
      rcases h with rfl | rfl <;> simp [isPlaceB] at hpl
     have hpp : arD D wh a = 0 \/ ∃ t, sl D (arD D wh a) = some t := by
      unfold arD
      split
      ·rename_i h
       obtain ⟨t, ht⟩ := hwl h
       have := (dep_par hlv0 ht).2
       simpa [par, ht] using this
      ·exact hlive
     have hal' : arD D wh a < 18446744073709551616 := by
      rcases hpp with e | ⟨t, ht⟩
      ·omega
      ·exact (hw.lt ht).1
     have har := fun W (hb : Below w.heap.size w W) => around_any W _ db D wh a (hv.below hb) hw.fits hal hwl
     have hht := fun W (hb : Below w.heap.size w W) => height_any D _ db lv hw hlv0 64 W n s (hv.below hb) hs (by have := (hlv0 n s hs).1; omega)
     have hh64 : hgt D n <= 64 := hgts_le D 64 n
     have hfi := fun W (hb : Below w.heap.size w W) => fits_any W _ db D (arD D wh a) (hgt D n) (hv.below hb) hw hpp (by omega) _ rfl
     by_cases hfe : fitsE D (arD D wh a) (hgt D n) = 0
     ·rw [if_pos hfe]
      have hun := fun W roW (h : PDoc W roW db D) => unlink_any W roW db D n s h hw hs
      obtain ⟨sE, hsE, -⟩ := sl_setL_into (p := s.parent) (l' := (lst D s.parent).take (idxH (lst D s.parent) n).toNat ++ (lst D s.parent).drop ((idxH (lst D s.parent) n).toNat + 1)) hs
      have hfE : Fits (outD D n s) := hw.fits.setL _ _
      have haE : atI (outD D n s).S n = some i := by
       obtain ⟨s1, _, h2⟩ := setL_at (p := s.parent) (l' := (lst D s.parent).take (idxH (lst D s.parent) n).toNat ++ (lst D s.parent).drop ((idxH (lst D s.parent) n).toNat + 1)) hai
       exact h2
      have hsE' : sl (outD D n s) n = some sE := hsE
      have hiE : (outD D n s).S[i]? = some sE := by
       obtain ⟨j, h1, h2⟩ := sl_some hsE'
       rw [haE] at h1
       cases h1
       exact h2
      obtain ⟨i9, ha9, hi9, e9⟩ := setPar_of (p := arD D wh a) hsE'
      have hfF : Fits (setPar (outD D n s) n (arD D wh a)) := by rw [e9]; exact hfE.setS hi9 rfl
      have hnup : n ∉ ups D a := by simpa using hup
      have hane : wh = 3 \/ wh = 4 -> a ≠ n := fun h e => by
       obtain ⟨t, ht⟩ := hwl h
       rw [ups_step hlv0 ht, e] at hnup
       simp at hnup
      have harF := arD_put (p := arD D wh a) hs hane
      have hlstE : ∀ q, lst (setPar (outD D n s) n (arD D wh a)) q = lst (outD D n s) q := fun q => lst_setPar hsE' q
      have hppF : arD D wh a = 0 \/ ∃ t, sl (setPar (outD D n s) n (arD D wh a)) (arD D wh a) = some t := hpp.imp id (fun ⟨t, ht⟩ => by
       obtain ⟨t1, h1, _⟩ := sl_setL_into (p := s.parent) (l' := (lst D s.parent).take (idxH (lst D s.parent) n).toNat ++ (lst D s.parent).drop ((idxH (lst D s.parent) n).toNat + 1)) ht
       rw [sl_setPar hsE']
       split
       ·exact ⟨_, rfl⟩
       ·exact ⟨t1, h1⟩)
      obtain ⟨k, hk, hkx, hkl⟩ := idxH_mem (hw.up n s hs)
      obtain ⟨hcut, hcnd⟩ := cut_facts (hw.nodup s.parent) hkx
      have hlE : ∀ q, lst (outD D n s) q = if q = s.parent then (lst D s.parent).take k ++ (lst D s.parent).drop (k + 1) else lst D q := fun q => by
       unfold outD
       rw [hk, Int.toNat_natCast]
       by_cases e : q = s.parent
       ·rw [if_pos e, e, lst_setL_eq (dep_par hlv0 hs).2]
       ·rw [if_neg e, lst_setL_ne e]
      have hllF : (lst (setPar (outD D n s) n (arD D wh a)) (arD D wh a)).length <= 4096 := by
       rw [hlstE, hlE]
       have h1 := lst_len hw (dep_par hlv0 hs).2
       have h2 := lst_len hw hpp
       split
       ·simp; omega
       ·exact h2
      have hwhF : wh = 1 \/ wh = 2 \/ ((wh = 3 \/ wh = 4) /\ a ∈ lst (setPar (outD D n s) n (arD D wh a)) (arD D wh a) /\ ∃ t, sl (setPar (outD D n s) n (arD D wh a)) a = some t) := by
       have hpl' : wh = 1 \/ wh = 2 \/ ((wh = 3 \/ wh = 4) /\ a ≠ 0) := by simpa [isPlaceB] using hpl
       rcases hpl' with h | h | ⟨h, _⟩
       ·exact .inl h
       ·exact .inr (.inl h)
       ·obtain ⟨t, ht⟩ := hwl h
        have hm : a ∈ lst D (arD D wh a) := by
         unfold arD
         rw [if_pos h]
         simpa [par, ht] using hw.up a t ht
        refine .inr (.inr ⟨h, ?_, ?_⟩)
        ·rw [hlstE, hlE]
         split
         ·rename_i e
          rw [hcut]
          exact ⟨by rw [<- e]; exact hm, hane h⟩
         ·exact hm
        ·obtain ⟨t1, h1, _⟩ := sl_setL_into (p := s.parent) (l' := (lst D s.parent).take (idxH (lst D s.parent) n).toNat ++ (lst D s.parent).drop ((idxH (lst D s.parent) n).toNat + 1)) ht
         exact ⟨t1, by rw [sl_setPar hsE', if_neg (hane h)]; exact h1⟩
      have hlk := fun W roW (h : PDoc W roW db (setPar (outD D n s) n (arD D wh a))) => link_any W roW db (setPar (outD D n s) n (arD D wh a)) n a (arD D wh a) wh h hfF hal hal' hppF hllF (by rw [harF]) hwhF
      have hfin : setL (setPar (outD D n s) n (arD D wh a)) (arD D wh a) (ins (lst (setPar (outD D n s) n (arD D wh a)) (arD D wh a)) (whereN (lst (setPar (outD D n s) n (arD D wh a)) (arD D wh a)) wh a) n) = putD (outD D n s) n (arD D wh a) wh a := by
       rw [setL_setPar hsE', hlstE]
       rfl
      rw [hfin] at hlk
      rw [hfe] at hfi
      have hpar := fun W roW (h : PDoc W roW db (outD D n s)) => h.parent (p := arD D wh a) hsE' haE hiE
      have hfd2 := fun W roW (h : PDoc W roW db (outD D n s)) g scap hc => find_some W _ db (outD D n s) n i h.view hfE hh haE g 0 scap hc
      generalize putD (outD D n s) n (arD D wh a) wh a = R at *
      generalize setPar (outD D n s) n (arD D wh a) = F at *
      generalize outD D n s = E at *
      generalize arD D wh a = p at *
      generalize hgt D n = ht at *
      clear hpd hv hs hhd hai hi hls hpp hwl hlive hlv0 hup hla hpl hfe hsE hfE haE hsE' hiE ha9 hi9 e9 hfF hnup hane harF hlstE hppF hk hkx hkl hcut hcnd hlE hllF hwhF hfin
      have HUN := hid hun
      have HLK := hid hlk
      clear hun hlk
      go_enter Tryz.func159, Tryz.ntmps159
      go_wp2_with fail
      refine hpc.mono ?_
      rintro e w1 ⟨rfl, rfl⟩
      clear hpc
      go_wp2_with fail
      refine hfd.mono ?_
      rintro e w2 ⟨rfl, hb⟩
      have HB2 := hid hb
      have hlv2 := hlv w2 hb
      clear hfd hb hlv
      go_wp2_with fail
      refine hlv2.mono ?_
      rintro e w3 ⟨rfl, hb⟩
      have HB3 := hid (HB2.out.trans (hb.mono HB2.out.size))
      clear hlv2 hb HB2
      have hl3 := hls' w3 HB3.out
      go_wp2_with fail
      refine hl3.mono ?_
      rintro e w4 ⟨rfl, hb⟩
      have HB4 := hid (HB3.out.trans (hb.mono HB3.out.size))
      have har4 := har w4 HB4.out
      clear hl3 hb hls' har HB3
      go_wp2_with fail
      refine har4.mono ?_
      rintro e w5 ⟨rfl, hb⟩
      have HB5 := hid (HB4.out.trans (hb.mono HB4.out.size))
      have hht5 := hht w5 HB5.out
      clear har4 hb hht HB4
      go_wp2_with fail
      refine hht5.mono ?_
      rintro e w6 ⟨rfl, hb⟩
      have HB6 := hid (HB5.out.trans (hb.mono HB5.out.size))
      have hfi6 := hfi w6 HB6.out
      clear hht5 hb hfi HB5
      go_wp2_with fail
      refine hfi6.mono ?_
      rintro e w7 ⟨rfl, hb⟩
      have P7 := PE.refl HD.out (HB6.out.trans (hb.mono HB6.out.size))
      clear hfi6 hb HB6
      have hun7 := HUN.out w7 _ P7.doc
      have HP7 := hid P7
      clear P7
      go_wp2_with fail
      refine hun7.mono ?_
      rintro e w8 h8
      obtain ⟨rfl, ro8, p8⟩ := h8.pe
      have P8 := HP7.out.trans p8
      obtain ⟨g8, sc8, hc8, hr8, hl8, hW8⟩ := hpar w8 ro8 P8.doc
      have hf8 := hfd2 w8 ro8 P8.doc g8 sc8 hc8
      rw [Nat.zero_add] at hf8
      have HP8 := hid P8
      clear hun7 h8 p8 P8 HP7 hpar hfd2 hc8
      go_wp2_with fail
      refine hf8.mono ?_
      rintro e w9 ⟨rfl, hb⟩
      obtain ⟨⟨u9, c9⟩, f9, d9⟩ := hW8 w9 hb
      have P9 := (HP8.out.below hb).cell (o := i * 8 + 6) (u := .int .u64 (p : Int)) hr8 d9
      have HP9 := hid P9
      have hlk9 := HLK.out _ _ P9.doc
      clear hf8 hb hW8 d9 P9 HP8
      go_wp2_with fail
      refine hlk9.mono ?_
      rintro e w10 h10
      obtain ⟨rfl, ro10, p10⟩ := h10.pe
      have HP10 := hid (HP9.out.trans p10)
      clear hlk9 h10 p10 HP9
      go_wp2
      go_ret
      exact HP10.out.post
     ·rw [if_neg hfe]
      have hz1 : decide (fitsE D (arD D wh a) (hgt D n) = 0) = false := by simpa using hfe
      generalize fitsE D (arD D wh a) (hgt D n) = z at *
      generalize arD D wh a = p at *
      generalize hgt D n = ht at *
      have hz2 : ¬ (z = 0) := hfe
      clear hpd hv hs hhd hai hi hls hpp hwl hlive hlv0 hup hla hpl
      go_enter Tryz.func159, Tryz.ntmps159
      go_wp2_with fail
      refine hpc.mono ?_
      rintro e w1 ⟨rfl, rfl⟩
      clear hpc
      go_wp2_with fail
      refine hfd.mono ?_
      rintro e w2 ⟨rfl, hb⟩
      have HB2 := hid hb
      have hlv2 := hlv w2 hb
      clear hfd hb hlv
      go_wp2_with fail
      refine hlv2.mono ?_
      rintro e w3 ⟨rfl, hb⟩
      have HB3 := hid (HB2.out.trans (hb.mono HB2.out.size))
      clear hlv2 hb HB2
      have hl3 := hls' w3 HB3.out
      go_wp2_with fail
      refine hl3.mono ?_
      rintro e w4 ⟨rfl, hb⟩
      have HB4 := hid (HB3.out.trans (hb.mono HB3.out.size))
      have har4 := har w4 HB4.out
      clear hl3 hb hls' har HB3
      go_wp2_with fail
      refine har4.mono ?_
      rintro e w5 ⟨rfl, hb⟩
      have HB5 := hid (HB4.out.trans (hb.mono HB4.out.size))
      have hht5 := hht w5 HB5.out
      clear har4 hb hht HB4
      go_wp2_with fail
      refine hht5.mono ?_
      rintro e w6 ⟨rfl, hb⟩
      have HB6 := hid (HB5.out.trans (hb.mono HB5.out.size))
      have hfi6 := hfi w6 HB6.out
      clear hht5 hb hfi HB5
      go_wp2_with fail
      refine hfi6.mono ?_
      rintro e w7 ⟨rfl, hb⟩
      have HB7 := hid (HB6.out.trans (hb.mono HB6.out.size))
      clear hfi6 hb HB6
      go_wp2
      go_ret
      exact ppost_same HD.out HB7.out
end Go.Proofs.YtjkgjckkglfokaaGreat.Gr
/- Delete of the program. -/
namespace Go.Proofs.YtjkgjckkglfokaaGreat.Gr
open Go.RowKit
set_option linter.unusedVariables false
set_option linter.unusedSimpArgs false
structure PdT (w : World) (ro : Nat -> Nat) (db : Nat) (D : Dc) (z : Int) (sa : Option Addr) (scap : Nat) (ra : Option Addr) (rcap : Nat) (L : List (Value × Value)) : Prop where
 head : IsCells w db #[.slice sa D.S.length scap, .slice ra D.roots.length rcap, .int .i64 z]
 slots : w.ownsRow 0 100 8 (.slice sa D.S.length scap) D.S.length (rowOf D.S L)
 roots : w.ownsRow 0 27 1 (.slice ra D.roots.length rcap) D.roots.length (hvals D.roots)
 len : L.length = D.S.length
 vals : ∀ (i : Nat) (s : Sl) (p : Value × Value), D.S[i]? = some s -> L[i]? = some p -> w.ownsRow 0 124 2 p.1 s.attrs.length (attrCells s.attrs) /\ w.ownsRow 0 27 1 p.2 s.kids.length (hvals s.kids)
 rdb : ro db = 1
 rs : ∀ b, (Value.slice sa D.S.length scap).ownBlock = some b -> ro b = 2
 rr : ∀ b, (Value.slice ra D.roots.length rcap).ownBlock = some b -> ro b = 3
 rat : ∀ (i : Nat) (p : Value × Value) (b : Nat), L[i]? = some p -> p.1.ownBlock = some b -> ro b = 2 * i + 4
 rk : ∀ (i : Nat) (p : Value × Value) (b : Nat), L[i]? = some p -> p.2.ownBlock = some b -> ro b = 2 * i + 5
 lt : ∀ b, ro b ≠ 0 -> b < w.heap.size
section
variable {w w' : World} {ro : Nat -> Nat} {db : Nat} {D : Dc} {z : Int} {sa : Option Addr} {scap : Nat} {ra : Option Addr} {rcap : Nat} {L : List (Value × Value)}
theorem PdS.toT (h : PdS w ro db D sa scap ra rcap L) : PdT w ro db D (cnt Sl.live D.S) sa scap ra rcap L := ⟨h.head, h.slots, h.roots, h.len, h.vals, h.rdb, h.rs, h.rr, h.rat, h.rk, h.lt⟩
theorem PdT.toS (h : PdT w ro db D z sa scap ra rcap L) (hz : z = (cnt Sl.live D.S : Int)) : PdS w ro db D sa scap ra rcap L := ⟨by rw [<- hz]; exact h.head, h.slots, h.roots, h.len, h.vals, h.rdb, h.rs, h.rr, h.rat, h.rk, h.lt⟩
theorem PdT.of_blocks (h : PdT w ro db D z sa scap ra rcap L) (hb : ∀ b, ro b ≠ 0 -> w'.heap[b]? = w.heap[b]?) (hs : w.heap.size <= w'.heap.size) : PdT w' ro db D z sa scap ra rcap L := by
 refine ⟨h.head.of_block (hb db (by rw [h.rdb]; omega)), own_of_block h.slots (fun k hk => hb k (by rw [h.rs k hk]; omega)), own_of_block h.roots (fun k hk => hb k (by rw [h.rr k hk]; omega)), h.len, fun i s p hs' hp => ?_, h.rdb, h.rs, h.rr, h.rat, h.rk, fun b hb' => Nat.lt_of_lt_of_le (h.lt b hb') hs⟩
 obtain ⟨h1, h2⟩ := h.vals i s p hs' hp
 exact ⟨own_of_block h1 (fun k hk => hb k (by rw [h.rat i p k hp hk]; omega)), own_of_block h2 (fun k hk => hb k (by rw [h.rk i p k hp hk]; omega))⟩
theorem PdT.below (h : PdT w ro db D z sa scap ra rcap L) (hb : Below w.heap.size w w') : PdT w' ro db D z sa scap ra rcap L :=
 h.of_blocks (fun b hb' => hb.block b (h.lt b hb')) hb.size
theorem PdT.count (h : PdT w ro db D z sa scap ra rcap L) (z' : Int) : PdT (w.setCell ⟨db, 2, none⟩ (.int .i64 z')) ro db D z' sa scap ra rcap L := by
 have hblk : ∀ b, ro b ≠ 1 -> (w.setCell ⟨db, 2, none⟩ (.int .i64 z')).heap[b]? = w.heap[b]? := fun b hb => Below.heap_setCell _ _ _ _ (by show b ≠ db; rintro rfl; exact hb h.rdb)
 refine ⟨by have := h.head.set 2 (.int .i64 z'); simpa using this, own_of_block h.slots (fun k hk => hblk k (by rw [h.rs k hk]; omega)), own_of_block h.roots (fun k hk => hblk k (by rw [h.rr k hk]; omega)), h.len, fun i s p hs' hp => ?_, h.rdb, h.rs, h.rr, h.rat, h.rk, fun b hb' => by simpa [World.setCell] using h.lt b hb'⟩
 obtain ⟨h1, h2⟩ := h.vals i s p hs' hp
 exact ⟨own_of_block h1 (fun k hk => hblk k (by rw [h.rat i p k hp hk]; omega)), own_of_block h2 (fun k hk => hblk k (by rw [h.rk i p k hp hk]; omega))⟩
theorem PdT.slotVals (h : PdT w ro db D z sa scap ra rcap L) {i : Nat} {s : Sl} {p : Value × Value} (hs : D.S[i]? = some s) (hp : L[i]? = some p) : SlotVals w (fun b => ro b ≠ 0) s p := by
 obtain ⟨h1, h2⟩ := h.vals i s p hs hp
 obtain ⟨aa, ac, e1, l1, v1⟩ := attrs_row' (R := fun b => ro b ≠ 0) h1 (fun b hb => by rw [h.rat i p b hp hb]; omega)
 obtain ⟨ka, kc, e2, l2, v2⟩ := hands_row (R := fun b => ro b ≠ 0) h2 (fun b hb => by rw [h.rk i p b hp hb]; omega)
 exact ⟨aa, ac, ka, kc, by rw [<- e1, <- e2], l1, l2, v1, v2⟩
theorem PdT.view (h : PdT w ro db D z sa scap ra rcap L) : View w (fun b => ro b ≠ 0) db D := by
 obtain ⟨h1, _, h3⟩ := slots_row (R := fun b => ro b ≠ 0) h.len h.slots (fun i s p hs hp => h.slotVals hs hp) (fun g e _ _ => by subst e; rw [h.rs g rfl]; omega)
 obtain ⟨a, cap, e, l, hr⟩ := hands_row (R := fun b => ro b ≠ 0) h.roots (fun b hb => by rw [h.rr b hb]; omega)
 simp only [Value.slice.injEq, true_and] at e
 obtain ⟨rfl, rfl⟩ := e
 exact ⟨by show ro db ≠ 0; rw [h.rdb]; omega, h.lt, ⟨sa, scap, by rw [h.head.cell]; rfl, h3, h1⟩, ⟨ra, rcap, by rw [h.head.cell]; rfl, l, hr⟩⟩
theorem PdT.slot (h : PdT w ro db D z sa scap ra rcap L) {i : Nat} {s : Sl} (hs : D.S[i]? = some s) :
  ∃ g p, sa = some ⟨g, 0, none⟩ /\ ro g = 2 /\ L[i]? = some p /\ D.S.length <= scap /\ w.cell? ⟨db, 0, none⟩ = some (.slice (some ⟨g, 0, none⟩) D.S.length scap) /\ ∀ j u, (slotCells s p)[j]? = some u -> w.cell? ⟨g, i * 8 + j, none⟩ = some u /\ w.frozen? ⟨g, i * 8 + j, none⟩ = false := by
 have hi := (List.getElem?_eq_some_iff.1 hs).1
 obtain ⟨p, hp⟩ : ∃ p, L[i]? = some p := ⟨_, List.getElem?_eq_getElem (by rw [h.len]; exact hi)⟩
 obtain ⟨h1, h2, h3⟩ := row_cell h.slots
 obtain ⟨g, e, _, _, _⟩ := h3 (i * 8 + 0) _ (by rw [rowOf_get hs hp (by omega)]; rfl)
 subst e
 refine ⟨g, p, rfl, h.rs g rfl, hp, h1, by rw [h.head.cell]; rfl, fun j u hu => ?_⟩
 have hj8 : j < 8 := (List.getElem?_eq_some_iff.1 hu).1
 obtain ⟨g', e1, _, _, e2⟩ := h3 (i * 8 + j) u (by rw [rowOf_get hs hp hj8]; exact hu)
 cases e1
 exact ⟨e2, own_frozen h.slots _⟩
end
section
variable {w : World} {ro : Nat -> Nat} {db : Nat} {D : Dc} {z : Int} {g scap : Nat} {ra : Option Addr} {rcap : Nat} {L : List (Value × Value)}
theorem PdT.cell (h : PdT w ro db D z (some ⟨g, 0, none⟩) scap ra rcap L) {i j : Nat} {s s' : Sl} {p p' : Value × Value} {u : Value} (hs : D.S[i]? = some s) (hp : L[i]? = some p) (hj : j < 8) (hc : slotCells s' p' = (slotCells s p).set j u)
  (hv : w.ownsRow 0 124 2 p'.1 s'.attrs.length (attrCells s'.attrs) /\ w.ownsRow 0 27 1 p'.2 s'.kids.length (hvals s'.kids)) (hq1 : ∀ b, p'.1.ownBlock = some b -> ro b = 2 * i + 4) (hq2 : ∀ b, p'.2.ownBlock = some b -> ro b = 2 * i + 5) :
  PdT (w.setCell ⟨g, i * 8 + j, none⟩ u) ro db { D with S := D.S.set i s' } z (some ⟨g, 0, none⟩) scap ra rcap (L.set i p') := by
 have hg : ro g = 2 := h.rs g rfl
 have hi := (List.getElem?_eq_some_iff.1 hs).1
 have hblk : ∀ b, ro b ≠ 2 -> (w.setCell ⟨g, i * 8 + j, none⟩ u).heap[b]? = w.heap[b]? := fun b hb => Below.heap_setCell _ _ _ _ (by show b ≠ g; rintro rfl; exact hb hg)
 refine ⟨?_, ?_, own_of_block h.roots (fun k hk => hblk k (by rw [h.rr k hk]; omega)), by simp [h.len], fun k x y hx hy => ?_, h.rdb, by simpa using h.rs, h.rr, fun k y b hy hb => ?_, fun k y b hy hb => ?_, fun b hb => by simpa [World.setCell] using h.lt b hb⟩
 ·have := h.head.of_block (hblk db (by rw [h.rdb]; omega))
  simpa using this
 ·have := own_set h.slots (i * 8 + j) u
  rw [<- rowOf_set h.len hs hp hj hc] at this
  simpa using this
 ·by_cases hk : k = i
  ·subst hk
   rw [List.getElem?_set_self hi] at hx
   rw [List.getElem?_set_self (by rw [h.len]; exact hi)] at hy
   cases hx
   cases hy
   exact ⟨own_of_block hv.1 (fun b hb => hblk b (by rw [hq1 b hb]; omega)), own_of_block hv.2 (fun b hb => hblk b (by rw [hq2 b hb]; omega))⟩
  ·rw [List.getElem?_set_ne (by omega)] at hx hy
   obtain ⟨v1, v2⟩ := h.vals k x y hx hy
   exact ⟨own_of_block v1 (fun b hb => hblk b (by rw [h.rat k y b hy hb]; omega)), own_of_block v2 (fun b hb => hblk b (by rw [h.rk k y b hy hb]; omega))⟩
 ·by_cases hk : k = i
  ·subst hk
   rw [List.getElem?_set_self (by rw [h.len]; exact hi)] at hy
   cases hy
   exact hq1 b hb
  ·rw [List.getElem?_set_ne (by omega)] at hy
   exact h.rat k y b hy hb
 ·by_cases hk : k = i
  ·subst hk
   rw [List.getElem?_set_self (by rw [h.len]; exact hi)] at hy
   cases hy
   exact hq2 b hb
  ·rw [List.getElem?_set_ne (by omega)] at hy
   exact h.rk k y b hy hb
theorem PdT.cell' {i : Nat} {s : Sl} {p : Value × Value} (h : PdT w ro db { D with S := D.S.set i s } z (some ⟨g, 0, none⟩) scap ra rcap (L.set i p)) {j : Nat} {s' : Sl} {p' : Value × Value} {u : Value} (hi : i < D.S.length) (hl : L.length = D.S.length) (hj : j < 8) (hc : slotCells s' p' = (slotCells s p).set j u)
  (hv : w.ownsRow 0 124 2 p'.1 s'.attrs.length (attrCells s'.attrs) /\ w.ownsRow 0 27 1 p'.2 s'.kids.length (hvals s'.kids)) (hq1 : ∀ b, p'.1.ownBlock = some b -> ro b = 2 * i + 4) (hq2 : ∀ b, p'.2.ownBlock = some b -> ro b = 2 * i + 5) :
  PdT (w.setCell ⟨g, i * 8 + j, none⟩ u) ro db { D with S := D.S.set i s' } z (some ⟨g, 0, none⟩) scap ra rcap (L.set i p') := by
 have := h.cell (i := i) (s := s) (p := p) (List.getElem?_set_self hi) (List.getElem?_set_self (by omega)) hj hc hv hq1 hq2
 simpa only [List.set_set] using this
theorem two_rows {i k : Nat} {p : Value × Value} {A : List (ByteArray × ByteArray)} {K : List Nat} (hg : ro g = 2) (h1 : w.ownsRow 0 124 2 p.1 A.length (attrCells A) /\ w.ownsRow 0 27 1 p.2 K.length (hvals K)) (hq1 : ∀ b, p.1.ownBlock = some b -> ro b = 2 * i + 4) (hq2 : ∀ b, p.2.ownBlock = some b -> ro b = 2 * i + 5) (u : Value) :
  (w.setCell ⟨g, k, none⟩ u).ownsRow 0 124 2 p.1 A.length (attrCells A) /\ (w.setCell ⟨g, k, none⟩ u).ownsRow 0 27 1 p.2 K.length (hvals K) :=
 ⟨own_of_block h1.1 (fun b hb => Below.heap_setCell _ _ _ _ (by show b ≠ g; rintro rfl; have := hq1 b hb; omega)), own_of_block h1.2 (fun b hb => Below.heap_setCell _ _ _ _ (by show b ≠ g; rintro rfl; have := hq2 b hb; omega))⟩
theorem PdT.kill (h : PdT w ro db D z (some ⟨g, 0, none⟩) scap ra rcap L) {i : Nat} {s : Sl} (hs : D.S[i]? = some s) : ∃ L', PdT (killW w g i s.gen) ro db { D with S := D.S.set i (zeroSl s.gen) } z (some ⟨g, 0, none⟩) scap ra rcap L' := by
 have hi := (List.getElem?_eq_some_iff.1 hs).1
 have hl := h.len
 have hg : ro g = 2 := h.rs g rfl
 obtain ⟨p, hp⟩ : ∃ p, L[i]? = some p := ⟨_, List.getElem?_eq_getElem (by rw [h.len]; exact hi)⟩
 have v0 := h.vals i s p hs hp
 have a0 : ∀ b, p.1.ownBlock = some b -> ro b = 2 * i + 4 := fun b hb => h.rat i p b hp hb
 have b0 : ∀ b, p.2.ownBlock = some b -> ro b = 2 * i + 5 := fun b hb => h.rk i p b hp hb
 have n1 : ∀ b, (Value.slice none 0 0).ownBlock = some b -> ro b = 2 * i + 4 := fun b hb => by cases hb
 have n2 : ∀ b, (Value.slice none 0 0).ownBlock = some b -> ro b = 2 * i + 5 := fun b hb => by cases hb
 have t := fun (w : World) (q : Value × Value) (A : List (ByteArray × ByteArray)) (K : List Nat) (v : w.ownsRow 0 124 2 q.1 A.length (attrCells A) /\ w.ownsRow 0 27 1 q.2 K.length (hvals K)) (x1 : ∀ b, q.1.ownBlock = some b -> ro b = 2 * i + 4) (x2 : ∀ b, q.2.ownBlock = some b -> ro b = 2 * i + 5) (k : Nat) (u : Value) => two_rows (w := w) (ro := ro) (g := g) (i := i) (k := k) (p := q) (A := A) (K := K) hg v x1 x2 u
 have h0 := h.cell (j := 0) (s' := s) (p' := p) (u := .int .u32 (s.gen : Int)) hs hp (by omega) rfl v0 a0 b0
 have v1 := t _ p _ _ v0 a0 b0 (i * 8 + 0) (.int .u32 (s.gen : Int))
 have h1 := h0.cell' (j := 1) (s' := { s with live := false }) (p' := p) (u := .bool false) hi hl (by omega) rfl v1 a0 b0
 have v2 := t _ p _ _ v1 a0 b0 (i * 8 + 1) (.bool false)
 have h2 := h1.cell' (j := 2) (s' := { s with live := false, kind := 0 }) (p' := p) (u := .int .i64 0) hi hl (by omega) rfl v2 a0 b0
 have v3 := t _ p _ _ v2 a0 b0 (i * 8 + 2) (.int .i64 0)
 have h3 := h2.cell' (j := 3) (s' := { s with live := false, kind := 0, name := ⟨#[]⟩ }) (p' := p) (u := .string ⟨#[]⟩) hi hl (by omega) rfl v3 a0 b0
 have v4 := t _ p _ _ v3 a0 b0 (i * 8 + 3) (.string ⟨#[]⟩)
 have h4 := h3.cell' (j := 4) (s' := { s with live := false, kind := 0, name := ⟨#[]⟩, attrs := [] }) (p' := (.slice none 0 0, p.2)) (u := .slice none 0 0) hi hl (by omega) rfl ⟨own_nil _ _ _ _, v4.2⟩ n1 b0
 have v5 := t _ (.slice none 0 0, p.2) [] _ ⟨own_nil _ _ _ _, v4.2⟩ n1 b0 (i * 8 + 4) (.slice none 0 0)
 have h5 := h4.cell' (j := 5) (s' := { s with live := false, kind := 0, name := ⟨#[]⟩, attrs := [], text := ⟨#[]⟩ }) (p' := (.slice none 0 0, p.2)) (u := .string ⟨#[]⟩) hi hl (by omega) rfl v5 n1 b0
 have v6 := t _ (.slice none 0 0, p.2) [] _ v5 n1 b0 (i * 8 + 5) (.string ⟨#[]⟩)
 have h6 := h5.cell' (j := 6) (s' := { s with live := false, kind := 0, name := ⟨#[]⟩, attrs := [], text := ⟨#[]⟩, parent := 0 }) (p' := (.slice none 0 0, p.2)) (u := .int .u64 0) hi hl (by omega) rfl v6 n1 b0
 have h7 := h6.cell' (j := 7) (s' := zeroSl s.gen) (p' := (.slice none 0 0, .slice none 0 0)) (u := .slice none 0 0) hi hl (by omega) rfl ⟨own_nil _ _ _ _, own_nil _ _ _ _⟩ n1 n2
 exact ⟨_, h7⟩
end
theorem cnt_kill {S : List Sl} {i : Nat} {s : Sl} (hs : S[i]? = some s) (hl : s.live = true) : cnt Sl.live (S.set i (zeroSl s.gen)) + 1 = cnt Sl.live S := by
 unfold cnt
 have hi := (List.getElem?_eq_some_iff.1 hs).1
 have hsp : S = S.take i ++ s :: S.drop (i + 1) := by
  rw [<- (List.getElem?_eq_some_iff.1 hs).2, <- List.drop_eq_getElem_cons hi, List.take_append_drop]
 have hst : S.set i (zeroSl s.gen) = S.take i ++ zeroSl s.gen :: S.drop (i + 1) := by
  rw [List.set_eq_take_append_cons_drop, if_pos hi]
 rw [hst]
 conv => rhs; rw [hsp]
 rw [List.filter_append, List.filter_append, List.filter_cons, List.filter_cons, if_pos hl, if_neg (by simp [zeroSl])]
 simp
 omega
theorem Turn.killA' {A : Nat -> Prop} {a w : World} (h : Turn A a w) {g : Nat} (hg : A g) (i gen : Nat) : Turn A a (killW w g i gen) :=
 (((((((h.setCell (p := ⟨g, _, none⟩) hg _).setCell (p := ⟨g, _, none⟩) hg _).setCell (p := ⟨g, _, none⟩) hg _).setCell (p := ⟨g, _, none⟩) hg _).setCell (p := ⟨g, _, none⟩) hg _).setCell (p := ⟨g, _, none⟩) hg _).setCell (p := ⟨g, _, none⟩) hg _).setCell (p := ⟨g, _, none⟩) hg _
end Go.Proofs.YtjkgjckkglfokaaGreat.Gr
/- Delete of the program, walked. -/
namespace Go.Proofs.YtjkgjckkglfokaaGreat.Gr
open Go.RowKit
set_option linter.unusedVariables false
set_option linter.unusedSimpArgs false
set_option maxRecDepth 100000
set_option maxHeartbeats 2000000
theorem pdel_any (w : World) (ro : Nat -> Nat) (db : Nat) (D : Dc) (h : Nat) (hd : PDoc w ro db D) (hw : WF D) (hh : h < 18446744073709551616) :
  Calls Tryz.prog 156 #[.pointer (some ⟨db, 0, none⟩), .int .u64 (h : Int)] w (PPost w ro db (delD D h).1 (delD D h).2) := by
 have hv := hd.view
 have HD := hid hd
 by_cases h0 : h = 0
 ·subst h0
  have e1 : delD D 0 = (D, 8) := by simp [delD, sl_zero]
  rw [e1]
  have hal := pall_zero w _ db D hv hw
  clear hd hv
  go_enter Tryz.func156, Tryz.ntmps156
  go_wp2_with fail
  refine hal.mono ?_
  rintro e w1 ⟨a, cap, rfl, _, hb⟩
  have HB := hid hb
  clear hal hb
  go_wp2
  go_ret
  exact ppost_same HD.out HB.out
 ·have h0' : ¬ ((h : Int) = 0) := by omega
  have hd0 : decide ((h : Int) = 0) = false := by simp; omega
  have hb0 : ((h : Int) == 0) = false := by simp; omega
  cases hs : sl D h with
  | none =>
   have e1 : delD D h = (D, 8) := by simp [delD, hs]
   rw [e1]
   have hal := pall_none w _ db D h hv hw.fits hh h0 (sl_none hs)
   clear hd hv hs
   go_enter Tryz.func156, Tryz.ntmps156
   go_wp2_with fail
   refine hal.mono ?_
   rintro e w1 ⟨rfl, hb⟩
   have HB := hid hb
   clear hal hb
   go_wp2
   go_ret
   exact ppost_same HD.out HB.out
  | some s =>
   have e1 : delD D h = (killA (outD D h s) (allH D h), 0) := by simp only [delD, hs, outD]
   rw [e1]
   have hal := pall_some w _ db D h s hv hw hs
   have hun := fun W roW (hp : PDoc W roW db D) => unlink_any W roW db D h s hp hw hs
   have hlen := (kids_len hw hs).2
   have HLIVE : Hid (∀ x ∈ allH D h, ∃ t, sl (outD D h s) x = some t) := fun x hx => by
    obtain ⟨t, ht⟩ := allH_live hw hs x hx
    obtain ⟨t', h1, _⟩ := sl_setL_into (p := s.parent) (l' := (lst D s.parent).take (idxH (lst D s.parent) h).toNat ++ (lst D s.parent).drop ((idxH (lst D s.parent) h).toNat + 1)) ht
    exact ⟨t', h1⟩
   have HBIG : Hid (∀ x ∈ allH D h, x < 18446744073709551616) := fun x hx => by
    obtain ⟨t, ht⟩ := allH_live hw hs x hx
    exact (hw.lt ht).1
   have HND := hid (allH_nodup hw hs)
   have HFITS : Hid (Fits (outD D h s)) := hw.fits.setL _ _
   have HUN := hid hun
   clear hd hv hs hun e1
   generalize outD D h s = E at *
   generalize allH D h = A at *
   go_enter Tryz.func156, Tryz.ntmps156
   go_wp2_with fail
   refine hal.mono ?_
   rintro e w1 ⟨la, lc, rfl, hown, hb⟩
   have P1 := PE.refl HD.out hb
   have hun1 := HUN.out w1 _ P1.doc
   have HP1 := hid P1
   have HOW := hid hown
   have HRO : Hid (∀ k, (Value.slice la A.length lc).ownBlock = some k -> ro k = 0) := fun k hk => by
    by_cases e : ro k = 0
    ·exact e
    ·obtain ⟨sa, scap, ra, rcap, L, hp⟩ := HD.out
     have := hp.lt k e
     have := (own_block_lt hown k hk).1
     omega
   clear hal hown hb P1 HUN
   go_wp2_with fail
   refine hun1.mono ?_
   rintro e w2 h2
   obtain ⟨rfl, ro2, p2⟩ := h2.pe
   have P2 := HP1.out.trans p2
   have HOW2 := hid (own_of_block HOW.out (fun k hk => p2.turn.block k (own_block_lt HOW.out k hk).2 (fun hne => hne (HRO.out k hk))))
   have HRO2 : Hid (∀ k, (Value.slice la A.length lc).ownBlock = some k -> ro2 k = 0) := fun k hk => by
    by_cases e : ro2 k = 0
    ·exact e
    ·rcases p2.from' k e with h1 | h1
     ·exact absurd (HRO.out k hk) h1
     ·have := (own_block_lt HOW.out k hk).2
      omega
   obtain ⟨sa, scap, ra, rcap, L, hpd⟩ := P2.doc
   have HT0 : Hid (∃ sa scap ra rcap L, PdT w2 ro2 db E (cnt Sl.live E.S) sa scap ra rcap L) := ⟨_, _, _, _, _, hpd.toT⟩
   have HP2 := hid P2
   have hlc : A.length <= lc := (row_cell HOW2.out).1
   clear hun1 h2 p2 P2 hpd HP1 HOW HRO
   go_wp2
   go_loopw [27] (fun vi wr => ∃ j : Nat, j <= A.length /\ vi = .int .i64 (j : Int) /\ Hid (∃ sa scap ra rcap L, PdT wr ro2 db (killA E (A.take j)) (cnt Sl.live E.S) sa scap ra rcap L) /\ Hid (cnt Sl.live (killA E (A.take j)).S + j = cnt Sl.live E.S) /\ Hid (Turn (fun b => ro2 b ≠ 0) w2 wr)) (fun vi _ => A.length - (intOf vi).toNat)
   case atStart => exact ⟨0, by omega, rfl, HT0, by show _ = _; rfl, Turn.refl _ _⟩
   case round =>
    obtain ⟨j, hj, rfl, hT, hC, hTu⟩ := hrel
    obtain ⟨sa, scap, ra, rcap, L, hT⟩ := hT.out
    have hown := own_of_block HOW2.out (w' := wr) (fun k hk => hTu.out.block k (own_block_lt HOW2.out k hk).2 (fun hne => hne (HRO2.out k hk)))
    by_cases hlt : j < A.length
    ·obtain ⟨x, hx⟩ : ∃ x, A[j]? = some x := ⟨_, List.getElem?_eq_getElem hlt⟩
     have hxm := List.mem_of_getElem? hx
     obtain ⟨t0, ht0⟩ := HLIVE.out x hxm
     have ht := sl_killA_ne (A.take j) E x t0 ht0 (not_mem_take HND.out hx)
     have hxl := HBIG.out x hxm
     have hfj := Fits.killA (A.take j) HFITS.out
     have hsn := killA_snoc (D := E) hx
     obtain ⟨hlc, -, hrow⟩ := row_cell hown
     obtain ⟨b, rfl, hbl, hbs, hcx⟩ := hrow j _ (by simp only [hvals, List.getElem?_map, hx]; rfl)
     generalize killA E (A.take j) = Ej at *
     obtain ⟨i, hai, hsi, hlive, -⟩ := sl_live ht
     obtain ⟨g, p, rfl, hg2, hp, hcap, hhd, hcl⟩ := hT.slot hsi
     have hat := find_some wr _ db Ej x i hT.view hfj hxl hai g 0 scap hhd
     rw [Nat.zero_add] at hat
     rw [kill_at hai hsi] at hsn
     have HSN := hid hsn
     have HK : Hid (∀ W, Below wr.heap.size wr W -> (∃ sa scap ra rcap L', PdT (killW W g i t0.gen) ro2 db { Ej with S := Ej.S.set i (zeroSl t0.gen) } (cnt Sl.live E.S) sa scap ra rcap L') /\ Turn (fun b => ro2 b ≠ 0) w2 (killW W g i t0.gen)) := fun W hb => by
      obtain ⟨L', hk⟩ := (hT.below hb).kill hsi
      refine ⟨⟨_, _, _, _, L', hk⟩, Turn.killA' (A := fun b => ro2 b ≠ 0) ⟨hb.os.trans hTu.out.os, hb.tape.trans hTu.out.tape, hb.output.trans hTu.out.output, Nat.le_trans hTu.out.size hb.size, fun k hk hne => (hb.block k (Nat.lt_of_lt_of_le hk hTu.out.size)).trans (hTu.out.block k hk hne)⟩ (by show ro2 g ≠ 0; omega) i t0.gen⟩
     have HCN : Hid (cnt Sl.live (Ej.S.set i (zeroSl t0.gen)) + (j + 1) = cnt Sl.live E.S) := by
      show _ = _
      have := cnt_kill hsi hlive
      have := hC.out
      omega
     have hgl := hT.lt g (by omega)
     have HCL : Hid (∀ W, Below wr.heap.size wr W -> ∀ j u, (slotCells t0 p)[j]? = some u -> W.cell? ⟨g, i * 8 + j, none⟩ = some u /\ W.frozen? ⟨g, i * 8 + j, none⟩ = false) := fun W hb j u hu => ⟨(hb.cell (p := ⟨g, _, none⟩) hgl).trans (hcl j u hu).1, (hb.frozen (p := ⟨g, _, none⟩) hgl).trans (hcl j u hu).2⟩
     clear hT hcl hp hsn hai hsi ht ht0 hxm hx hrow hown hfj hhd hTu hC hlive
     go_wp2_with fail
     refine hat.mono ?_
     rintro e w4 ⟨rfl, hb⟩
     have hc := HCL.out w4 hb
     obtain ⟨k1, k2⟩ := HK.out w4 hb
     have HK1 := hid k1
     have HK2 := hid k2
     have c0 : w4.cell? ⟨g, i * 8, none⟩ = _ := (hc 0 _ rfl).1
     have c1 := (hc 1 _ rfl).1
     have c2 := (hc 2 _ rfl).1
     have c3 := (hc 3 _ rfl).1
     have c4 := (hc 4 _ rfl).1
     have c5 := (hc 5 _ rfl).1
     have c6 := (hc 6 _ rfl).1
     have c7 := (hc 7 _ rfl).1
     have f0 : w4.frozen? ⟨g, i * 8, none⟩ = _ := (hc 0 _ rfl).2
     have f1 := (hc 1 _ rfl).2
     have f2 := (hc 2 _ rfl).2
     have f3 := (hc 3 _ rfl).2
     have f4 := (hc 4 _ rfl).2
     have f5 := (hc 5 _ rfl).2
     have f6 := (hc 6 _ rfl).2
     have f7 := (hc 7 _ rfl).2
     clear hat hb hc k1 k2 HK HCL
     go_wp2
     go_roundw
     case rel => exact ⟨j + 1, by omega, by go_num, by rw [HSN.out]; exact HK1, by rw [HSN.out]; exact HCN, HK2⟩
     case measure => simp [intOf]; omega
    ·have hje : j = A.length := by omega
     subst hje
     rw [List.take_length] at hT
     have hC' := hC.out
     rw [List.take_length] at hC'
     have hcn : (cnt Sl.live E.S : Int) - (A.length : Int) = (cnt Sl.live (killA E A).S : Int) := by omega
     have hcl1 : cnt Sl.live E.S <= 4096 := Nat.le_trans (cnt_le _ _) HFITS.out.len
     have hc2 : wr.cell? ⟨db, 2, none⟩ = some (.int .i64 (cnt Sl.live E.S : Int)) := by rw [hT.head.cell]; rfl
     have hf2 : wr.frozen? ⟨db, 2, none⟩ = false := hT.head.frozen 2
     have HFin := hid ((hT.count _).toS hcn)
     have hrd : ro2 db ≠ 0 := by rw [hT.rdb]; omega
     have hcb : (cnt Sl.live E.S : Int) <= 4096 := by omega
     have hcb2 : (0 : Int) <= (cnt Sl.live E.S : Int) := by omega
     have hlb : (A.length : Int) <= 4096 := by omega
     clear hT hC hC' hcn hown HT0
     generalize cnt Sl.live E.S = z at *
     go_wp2
     go_ret
     refine (HP2.out.trans (ro2 := ro2) ⟨?_, ⟨_, _, _, _, _, HFin.out⟩, fun b hb => .inl hb⟩).post
     exact Turn.setCell (A := fun b => ro2 b ≠ 0) hTu.out (p := ⟨db, 2, none⟩) hrd _
end Go.Proofs.YtjkgjckkglfokaaGreat.Gr
