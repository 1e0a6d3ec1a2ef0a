/- What every document keeps; the way from a node up to its root. -/
import Derived.Test.YtjkgjckkglfokaaS05
import Derived.Laws.Bits64b
namespace Go.Proofs.Ytjkgjckkglfokaa.Gr
open Go.RowKit
set_option linter.unusedVariables false
set_option linter.unusedSimpArgs false

def zeroSl (g : Nat) : Sl := { gen := g, live := false, kind := 0, name := ⟨#[]⟩, attrs := [], text := ⟨#[]⟩, parent := 0, kids := [] }
/-- A slot's node in plain, without its children. -/
def ndOf (s : Sl) : Nd Empty := { kind := s.kind, name := s.name, attrs := s.attrs, text := s.text, kids := [] }

/-- The children of a node; of 0 the roots. -/
def lst (D : Dc) (p : Nat) : List Nat := if p = 0 then D.roots else match sl D p with | some s => s.kids | none => []

/-- Levels: each node lies one deeper than its parent, none too deep. -/
def Lev (D : Dc) (lv : Nat → Nat) : Prop := ∀ h s, sl D h = some s → lv h ≤ 63 ∧ ((s.parent = 0 ∧ lv h = 0) ∨ ∃ p, sl D s.parent = some p ∧ lv h = lv s.parent + 1)

structure WF (D : Dc) : Prop where
  fits : Fits D
  gen1 : ∀ (i : Nat) (s : Sl), D.S[i]? = some s → 1 ≤ s.gen
  dead : ∀ (i : Nat) (s : Sl), D.S[i]? = some s → s.live = false → s = zeroSl s.gen
  own : ∀ (i : Nat) (s : Sl), D.S[i]? = some s → s.live = true → ownE (ndOf s) = 0
  used : ∀ (i : Nat) (s : Sl), D.S[i]? = some s → s.live = true → (s.kind = 2 → s.kids = [] ∧ s.name = ⟨#[]⟩ ∧ s.attrs = []) ∧ (s.kind = 1 → s.text = ⟨#[]⟩)
  lev : ∃ lv, Lev D lv
  up : ∀ h s, sl D h = some s → h ∈ lst D s.parent
  down : ∀ p, (p = 0 ∨ ∃ q, sl D p = some q) → ∀ h ∈ lst D p, ∃ s, sl D h = some s ∧ s.parent = p
  nodup : ∀ p, (lst D p).Nodup

theorem sl_zero (D : Dc) : sl D 0 = none := by simp [sl, atI_zero]
theorem sl_live {D : Dc} {h : Nat} {s : Sl} (e : sl D h = some s) : ∃ i, atI D.S h = some i ∧ D.S[i]? = some s ∧ s.live = true ∧ h = hnd i s.gen := by
  obtain ⟨i, h1, h2⟩ := sl_some e
  obtain ⟨s', g1, g2, _, _, _, g3⟩ := atI_some h1
  rw [h2] at g1
  cases g1
  exact ⟨i, h1, h2, g2, g3⟩
theorem sl_of_at {D : Dc} {h i : Nat} (e : atI D.S h = some i) : ∃ s, sl D h = some s ∧ D.S[i]? = some s := by
  obtain ⟨s, h1, _⟩ := atI_some e
  exact ⟨s, by simp [sl, e, h1], h1⟩
theorem sl_none {D : Dc} {h : Nat} (e : sl D h = none) : atI D.S h = none := by
  cases ha : atI D.S h with
  | none => rfl
  | some i =>
    obtain ⟨s, h1, _⟩ := sl_of_at ha
    rw [e] at h1
    cases h1

theorem WF.lt {D : Dc} (hw : WF D) {h : Nat} {s : Sl} (e : sl D h = some s) : h < 18446744073709551616 ∧ 0 < h ∧ ∃ i, atI D.S h = some i ∧ D.S[i]? = some s ∧ i < 4096 := by
  obtain ⟨i, h1, h2, h3, h4⟩ := sl_live e
  have hi := (List.getElem?_eq_some_iff.1 h2).1
  have hl := hw.fits.len
  have hg := hw.fits.gen i s h2
  refine ⟨?_, ?_, i, h1, h2, by omega⟩
  · rw [h4]; unfold hnd; omega
  · rw [h4]; unfold hnd; omega

theorem WF.kind {D : Dc} (hw : WF D) {h : Nat} {s : Sl} (e : sl D h = some s) : s.kind = 1 ∨ s.kind = 2 := by
  obtain ⟨i, _, h2, h3, _⟩ := sl_live e
  have h := hw.own i s h2 h3
  unfold ownE ndOf at h
  simp only at h
  by_cases k1 : s.kind = 1
  · exact .inl k1
  · rw [if_neg k1] at h
    by_cases k2 : s.kind = 2
    · exact .inr k2
    · rw [if_neg k2] at h; omega

/-- A node's parent. -/
def par (D : Dc) (h : Nat) : Nat := match sl D h with | some s => s.parent | none => 0

/-- A node, its parent, and so on. -/
def chain (D : Dc) : Nat → Nat → List Nat
  | 0, _ => []
  | k + 1, h => if h = 0 then [] else h :: chain D k (par D h)

theorem Lev.par {D : Dc} {lv : Nat → Nat} (hl : Lev D lv) {h : Nat} {s : Sl} (e : sl D h = some s) : (s.parent = 0 ∧ lv h = 0) ∨ (∃ p, sl D s.parent = some p ∧ lv h = lv s.parent + 1) := (hl h s e).2

/-- How many nodes lie from a root down to one. -/
def dep (lv : Nat → Nat) (h : Nat) : Nat := if h = 0 then 0 else lv h + 1

theorem dep_par {D : Dc} {lv : Nat → Nat} (hl : Lev D lv) {h : Nat} {s : Sl} (e : sl D h = some s) : dep lv h = dep lv s.parent + 1 ∧ (s.parent = 0 ∨ ∃ p, sl D s.parent = some p) := by
  have h0 : h ≠ 0 := by rintro rfl; rw [sl_zero] at e; cases e
  rcases hl.par e with ⟨h1, h2⟩ | ⟨p, h1, h2⟩
  · exact ⟨by simp [dep, h0, h1, h2], .inl h1⟩
  · have hp0 : s.parent ≠ 0 := by intro h3; rw [h3, sl_zero] at h1; cases h1
    exact ⟨by simp [dep, h0, hp0, h2], .inr ⟨p, h1⟩⟩

theorem dep_le {D : Dc} {lv : Nat → Nat} (hl : Lev D lv) {h : Nat} (hh : h = 0 ∨ ∃ s, sl D h = some s) : dep lv h ≤ 64 := by
  rcases hh with rfl | ⟨s, e⟩
  · simp [dep]
  · have := (hl h s e).1
    unfold dep
    split <;> omega

theorem chain_eq {D : Dc} {lv : Nat → Nat} (hl : Lev D lv) : ∀ (k : Nat) (h : Nat), (h = 0 ∨ ∃ s, sl D h = some s) → dep lv h ≤ k → chain D k h = chain D (dep lv h) h ∧ (chain D k h).length = dep lv h
  | 0, h, hh, hk => by
    have : dep lv h = 0 := by omega
    rw [this]
    exact ⟨rfl, rfl⟩
  | k + 1, h, hh, hk => by
    rcases hh with rfl | ⟨s, e⟩
    · simp [chain, dep]
    · have h0 : h ≠ 0 := by rintro rfl; rw [sl_zero] at e; cases e
      obtain ⟨h1, h2⟩ := dep_par hl e
      have hp : par D h = s.parent := by simp [par, e]
      have ih := chain_eq hl k s.parent h2 (by omega)
      have e1 : chain D (k + 1) h = h :: chain D k s.parent := by rw [chain, if_neg h0, hp]
      have e2 : chain D (dep lv s.parent + 1) h = h :: chain D (dep lv s.parent) s.parent := by rw [chain, if_neg h0, hp]
      rw [h1, e1, e2, ih.1]
      refine ⟨rfl, ?_⟩
      have := ih.2
      rw [ih.1] at this
      simp [this]

/-- All around a node, itself first. -/
def ups (D : Dc) (h : Nat) : List Nat := chain D 64 h

theorem ups_step {D : Dc} {lv : Nat → Nat} (hl : Lev D lv) {h : Nat} {s : Sl} (e : sl D h = some s) : ups D h = h :: ups D s.parent := by
  have h0 : h ≠ 0 := by rintro rfl; rw [sl_zero] at e; cases e
  obtain ⟨h1, h2⟩ := dep_par hl e
  have hp : par D h = s.parent := by simp [par, e]
  have hd := dep_le hl (.inr ⟨s, e⟩)
  unfold ups
  rw [(chain_eq hl 64 h (.inr ⟨s, e⟩) hd).1, (chain_eq hl 64 s.parent h2 (by omega)).1, h1, chain, if_neg h0, hp]
theorem ups_zero (D : Dc) : ups D 0 = [] := by simp [ups, chain]
theorem ups_length {D : Dc} {lv : Nat → Nat} (hl : Lev D lv) {h : Nat} (hh : h = 0 ∨ ∃ s, sl D h = some s) : (ups D h).length = dep lv h := (chain_eq hl 64 h hh (dep_le hl hh)).2

end Go.Proofs.Ytjkgjckkglfokaa.Gr

/- The program: is a node live, what lies around it. -/
namespace Go.Proofs.Ytjkgjckkglfokaa.Gr
open Go.RowKit
set_option linter.unusedVariables false
set_option linter.unusedSimpArgs false

def liveB (D : Dc) (h : Nat) : Bool := decide (h = 0) || (atI D.S h).isSome

set_option maxRecDepth 100000 in
set_option maxHeartbeats 400000 in
theorem isLive_any (w : World) (R : Nat → Prop) (db : Nat) (D : Dc) (h : Nat) (hv : View w R db D) (hf : Fits D) (hh : h < 18446744073709551616) :
    Calls Try.prog 98 #[.pointer (some ⟨db, 0, none⟩), .int .u64 (h : Int)] w fun e w' => e = .returned (.bool (liveB D h)) ∧ Below w.heap.size w w' := by
  by_cases h0 : h = 0
  · have hb : ((h : Int) == 0) = true := by simp [h0]
    have e1 : liveB D h = true := by simp [liveB, h0]
    rw [e1]
    clear e1 h0 hv
    go_enter Try.func98, Try.ntmps98
    go_wp2
    go_ret
    exact ⟨rfl, Below.refl _ _⟩
  · have hb : ((h : Int) == 0) = false := by simp; omega
    cases ha : atI D.S h with
    | none =>
      have hfi := find_none w R db D h hv hf hh ha
      have e1 : liveB D h = false := by simp [liveB, h0, ha]
      rw [e1]
      clear e1 h0 hv ha
      go_enter Try.func98, Try.ntmps98
      go_wp2_with fail
      refine hfi.mono ?_
      rintro e w' ⟨rfl, hb'⟩
      go_wp2
      go_ret
      exact ⟨rfl, hb'⟩
    | some i =>
      obtain ⟨s, hs, -⟩ := atI_some ha
      obtain ⟨b, o, cap, aa, ac, ka, kc, h1, -⟩ := hv.slot hs
      have hfi := find_some w R db D h i hv hf hh ha b o cap h1
      have e1 : liveB D h = true := by simp [liveB, ha]
      rw [e1]
      clear e1 h0 hv ha
      go_enter Try.func98, Try.ntmps98
      go_wp2_with fail
      refine hfi.mono ?_
      rintro e w' ⟨rfl, hb'⟩
      go_wp2
      go_ret
      exact ⟨rfl, hb'⟩

/-- Where a node comes to lie. -/
def arD (D : Dc) (wh : Int) (a : Nat) : Nat := if wh = 3 ∨ wh = 4 then par D a else a

set_option maxRecDepth 100000 in
set_option maxHeartbeats 400000 in
theorem around_any (w : World) (R : Nat → Prop) (db : Nat) (D : Dc) (wh : Int) (a : Nat) (hv : View w R db D) (hf : Fits D) (hh : a < 18446744073709551616) (hl : wh = 3 ∨ wh = 4 → ∃ s, sl D a = some s) :
    Calls Try.prog 99 #[.pointer (some ⟨db, 0, none⟩), .int .i64 wh, .int .u64 (a : Int)] w fun e w' => e = .returned (.int .u64 (arD D wh a : Int)) ∧ Below w.heap.size w w' := by
  by_cases h3 : wh = 3 ∨ wh = 4
  · obtain ⟨s, hs⟩ := hl h3
    obtain ⟨i, ha, hsi, -⟩ := sl_live hs
    obtain ⟨b, o, cap, aa, ac, ka, kc, h1, hcl, hb, c0, c1, c2, c3, c4, c5, c6, c7, -⟩ := hv.slot hsi
    have hfi := find_some w R db D a i hv hf hh ha b o cap h1
    have e1 : arD D wh a = s.parent := by simp [arD, h3, par, hs]
    have hbl := hv.lt b hb
    rw [e1]
    clear e1 hl hv ha hs hsi
    rcases h3 with rfl | rfl
    · go_enter Try.func99, Try.ntmps99
      go_wp2_with fail
      refine hfi.mono ?_
      rintro e w' ⟨rfl, hb'⟩
      obtain ⟨hcc, -⟩ := bcell hb'
      have HB : Hid (Below w.heap.size w w') := hb'
      clear hb'
      go_wp2
      go_ret
      exact ⟨rfl, HB.out⟩
    · go_enter Try.func99, Try.ntmps99
      go_wp2_with fail
      refine hfi.mono ?_
      rintro e w' ⟨rfl, hb'⟩
      obtain ⟨hcc, -⟩ := bcell hb'
      have HB : Hid (Below w.heap.size w w') := hb'
      clear hb'
      go_wp2
      go_ret
      exact ⟨rfl, HB.out⟩
  · have e1 : arD D wh a = a := by simp [arD, h3]
    rw [e1]
    have hb1 : (wh == 3) = false := beq_eq_false_iff_ne.2 (fun h => h3 (.inl h))
    have hb2 : (wh == 4) = false := beq_eq_false_iff_ne.2 (fun h => h3 (.inr h))
    clear e1 hl hv h3
    go_enter Try.func99, Try.ntmps99
    go_wp2
    go_ret
    exact ⟨rfl, Below.refl _ _⟩

set_option maxRecDepth 100000 in
set_option maxHeartbeats 400000 in
theorem depth_any (w : World) (R : Nat → Prop) (db : Nat) (D : Dc) (h : Nat) (hv : View w R db D) (hw : WF D) (hh : h = 0 ∨ ∃ s, sl D h = some s) :
    Calls Try.prog 117 #[.pointer (some ⟨db, 0, none⟩), .int .u64 (h : Int)] w fun e w' => e = .returned (.int .i64 ((ups D h).length : Int)) ∧ Below w.heap.size w w' := by
  obtain ⟨lv, hlv⟩ := hw.lev
  rw [ups_length hlv hh]
  have hd64 := dep_le hlv hh
  have HV : Hid (View w R db D) := hv
  have HW : Hid (WF D) := hw
  have HL : Hid (Lev D lv) := hlv
  clear hv hw hlv
  go_enter Try.func117, Try.ntmps117
  go_wp2
  go_loopw [1, 5] (fun v c wr => ∃ (x k : Nat), v = .int .u64 (x : Int) ∧ c = .int .i64 (k : Int) ∧ Hid (x = 0 ∨ ∃ s, sl D x = some s) ∧ Hid (k + dep lv x = dep lv h) ∧ k ≤ 64 ∧ Hid (Below w.heap.size w wr)) (fun v c _ => 64 - (intOf c).toNat)
  case atStart => exact ⟨h, 0, rfl, rfl, hh, Nat.zero_add _, by omega, Below.refl _ _⟩
  case round =>
    obtain ⟨x, k, rfl, rfl, hx, hk, hk64, hbw⟩ := hrel
    by_cases h0 : x = 0
    · have hb : ((x : Int) == 0) = true := by simp [h0]
      have hkk : k = dep lv h := by have := hk.out; rw [h0] at this; simpa [dep] using this
      clear h0 hk
      go_wp2
      go_ret
      exact ⟨congrArg _ (v_int (by omega)), hbw.out⟩
    · have hb : ((x : Int) == 0) = false := by simp; omega
      obtain ⟨s, hs⟩ : ∃ s, sl D x = some s := by
        rcases hx.out with h | h
        · exact absurd h h0
        · exact h
      obtain ⟨hdp, hpp⟩ := dep_par HL.out hs
      have hkk := hk.out
      have hdx := dep_le HL.out (.inr ⟨s, hs⟩)
      obtain ⟨hxl, -, i, ha, hsi, -⟩ := HW.out.lt hs
      have hv' := HV.out.below hbw.out
      obtain ⟨b, o, cap, aa, ac, ka, kc, h1, hcl, hbR, c0, c1, c2, c3, c4, c5, c6, c7, -⟩ := hv'.slot hsi
      have hfi := find_some wr R db D x i hv' HW.out.fits hxl ha b o cap h1
      have hbl := hv'.lt b hbR
      have HK : Hid (k + 1 + dep lv s.parent = dep lv h) := by show _ = _; omega
      have HP : Hid (s.parent = 0 ∨ ∃ p, sl D s.parent = some p) := hpp
      have hk63 : k + 1 ≤ 64 := by omega
      clear hdp hpp hkk hdx hv' ha hsi hs h0 hk hx c0 c1 c2 c3 c4 c5 c7 hcl
      go_wp2_with fail
      refine hfi.mono ?_
      rintro e w2 ⟨rfl, hb2⟩
      obtain ⟨hcc, -⟩ := bcell hb2
      have HB2 : Hid (Below w.heap.size w w2) := hbw.out.trans (hb2.mono hbw.out.size)
      clear hb2
      go_wp2
      go_roundw
      case rel => exact ⟨s.parent, k + 1, rfl, by go_num, HP, HK, hk63, HB2⟩
      case measure => simp [intOf]; omega

end Go.Proofs.Ytjkgjckkglfokaa.Gr

/- The document: a handle's slot, its children, what lies around it. -/
namespace Go.Proofs.Ytjkgjckkglfokaa.Gr
open Go.RowKit
set_option linter.unusedVariables false
set_option linter.unusedSimpArgs false
attribute [local go_sem] Bel.cell Bel.fz

theorem bits_hnd (g i : Nat) (hg : g < 4294967296) (hi : i < 4294967295) : bits .or .u64 ((g : Int) * 4294967296) ((i : Int) + 1) = (hnd i g : Int) := by
  have h := bits_or_u64_nat (g * 4294967296) (i + 1) (by omega) (by omega)
  have e1 : ((g * 4294967296 : Nat) : Int) = (g : Int) * 4294967296 := by omega
  have e2 : ((i + 1 : Nat) : Int) = (i : Int) + 1 := by omega
  rw [e1, e2] at h
  rw [h]
  have := Nat.shiftLeft_add_eq_or_of_lt (b := i + 1) (i := 32) (by omega) g
  rw [Nat.shiftLeft_eq] at this
  unfold hnd
  rw [← this]

/-- The roots, or a live node's children, as a slice. -/
theorem View.lst {w : World} {R : Nat → Prop} {db : Nat} {D : Dc} (hv : View w R db D) {p : Nat} (hp : p = 0 ∨ ∃ s, sl D p = some s) : ∃ a cap, (lst D p).length ≤ cap ∧ HandsAt w R a (lst D p) ∧
    ((p = 0 ∧ w.cell? ⟨db, 1, none⟩ = some (.slice a (lst D p).length cap)) ∨ (p ≠ 0 ∧ ∃ i b o cap', atI D.S p = some i ∧ i < D.S.length ∧ w.cell? ⟨db, 0, none⟩ = some (.slice (some ⟨b, o, none⟩) D.S.length cap') ∧ D.S.length ≤ cap' ∧ R b ∧ w.cell? ⟨b, o + i * 8 + 7, none⟩ = some (.slice a (lst D p).length cap))) := by
  rcases hp with rfl | ⟨s, hs⟩
  · obtain ⟨a, cap, h1, h2, h3⟩ := hv.roots
    exact ⟨a, cap, h2, h3, .inl ⟨rfl, h1⟩⟩
  · have h0 : p ≠ 0 := by rintro rfl; rw [sl_zero] at hs; cases hs
    obtain ⟨i, ha, hsi, _⟩ := sl_live hs
    obtain ⟨b, o, cap, aa, ac, ka, kc, h1, hcl, hbR, c0, c1, c2, c3, c4, c5, c6, c7, l1, l2, h3, h4⟩ := hv.slot hsi
    have e : Go.Proofs.Ytjkgjckkglfokaa.Gr.lst D p = s.kids := by simp [Go.Proofs.Ytjkgjckkglfokaa.Gr.lst, h0, hs]
    rw [e]
    exact ⟨ka, kc, l2, h4, .inr ⟨h0, i, b, o, cap, ha, (List.getElem?_eq_some_iff.1 hsi).1, h1, hcl, hbR, c7⟩⟩

end Go.Proofs.Ytjkgjckkglfokaa.Gr

/- The document: lists, levels, what lies within. -/
namespace Go.Proofs.Ytjkgjckkglfokaa.Gr
open Go.RowKit
set_option linter.unusedVariables false
set_option linter.unusedSimpArgs false
attribute [local go_sem] Bel.cell Bel.fz

end Go.Proofs.Ytjkgjckkglfokaa.Gr

/- A node and all within it, in plain. -/
namespace Go.Proofs.Ytjkgjckkglfokaa.Gr
open Go.RowKit
set_option linter.unusedVariables false
set_option linter.unusedSimpArgs false

def alls (D : Dc) : Nat → Nat → List Nat
  | 0, _ => []
  | k + 1, h => h :: (lst D h).flatMap (alls D k)

/-- A node and all within it, in document order. -/
def allH (D : Dc) (h : Nat) : List Nat := alls D 64 h

theorem flatMap_congr' {α β : Type} {l : List α} {f g : α → List β} (h : ∀ x ∈ l, f x = g x) : l.flatMap f = l.flatMap g := by
  induction l with
  | nil => rfl
  | cons a r ih => rw [List.flatMap_cons, List.flatMap_cons, h a (by simp), ih (fun x hx => h x (by simp [hx]))]

theorem WF.kid {D : Dc} (hw : WF D) {lv : Nat → Nat} (hl : Lev D lv) {p : Nat} {q : Sl} (hp : sl D p = some q) {c : Nat} (hc : c ∈ lst D p) : ∃ s, sl D c = some s ∧ s.parent = p ∧ lv c = lv p + 1 := by
  obtain ⟨s, h1, h2⟩ := hw.down p (.inr ⟨q, hp⟩) c hc
  refine ⟨s, h1, h2, ?_⟩
  have h0 : p ≠ 0 := by rintro rfl; rw [sl_zero] at hp; cases hp
  rcases hl.par h1 with ⟨h3, _⟩ | ⟨_, _, h4⟩
  · rw [h2] at h3; exact absurd h3 h0
  · rw [h4, h2]
theorem WF.root {D : Dc} (hw : WF D) {lv : Nat → Nat} (hl : Lev D lv) {c : Nat} (hc : c ∈ D.roots) : ∃ s, sl D c = some s ∧ s.parent = 0 ∧ lv c = 0 := by
  obtain ⟨s, h1, h2⟩ := hw.down 0 (.inl rfl) c (by simpa [lst] using hc)
  refine ⟨s, h1, h2, ?_⟩
  rcases hl.par h1 with ⟨_, h4⟩ | ⟨q, h3, _⟩
  · exact h4
  · rw [h2, sl_zero] at h3; cases h3

theorem alls_eq {D : Dc} (hw : WF D) {lv : Nat → Nat} (hl : Lev D lv) : ∀ (k : Nat) (h : Nat) (s : Sl), sl D h = some s → 64 - lv h ≤ k → ∀ j, 64 - lv h ≤ j → alls D k h = alls D j h
  | 0, h, s, e, hk => by have := (hl h s e).1; omega
  | k + 1, h, s, e, hk => by
    intro j hj
    cases j with
    | zero => have := (hl h s e).1; omega
    | succ j =>
      rw [alls, alls]
      refine congrArg _ (flatMap_congr' fun c hc => ?_)
      obtain ⟨s', h1, _, h2⟩ := hw.kid hl e hc
      exact alls_eq hw hl k c s' h1 (by omega) j (by omega)

theorem allH_step {D : Dc} (hw : WF D) {h : Nat} {s : Sl} (e : sl D h = some s) : allH D h = h :: (lst D h).flatMap (allH D) := by
  obtain ⟨lv, hl⟩ := hw.lev
  unfold allH
  rw [alls]
  refine congrArg _ (flatMap_congr' fun c hc => ?_)
  obtain ⟨s', h1, _, h2⟩ := hw.kid hl e hc
  exact alls_eq hw hl 63 c s' h1 (by omega) 64 (by omega)

/-- Whatever lies within a node has it around. -/
theorem alls_ups {D : Dc} (hw : WF D) {lv : Nat → Nat} (hl : Lev D lv) : ∀ (k : Nat) (h : Nat) (s : Sl), sl D h = some s → ∀ x ∈ alls D k h, (∃ s', sl D x = some s') ∧ h ∈ ups D x
  | 0, h, s, e, x, hx => by simp [alls] at hx
  | k + 1, h, s, e, x, hx => by
    rw [alls, List.mem_cons, List.mem_flatMap] at hx
    rcases hx with rfl | ⟨c, hc, hx⟩
    · exact ⟨⟨s, e⟩, by rw [ups_step hl e]; simp⟩
    · obtain ⟨s', h1, hp, _⟩ := hw.kid hl e hc
      obtain ⟨h2, h3⟩ := alls_ups hw hl k c s' h1 x hx
      refine ⟨h2, ?_⟩
      clear hx
      obtain ⟨sx, hsx⟩ := h2
      have key : ∀ (m : Nat) (y : Nat) (sy : Sl), sl D y = some sy → lv y ≤ m → c ∈ ups D y → h ∈ ups D y := by
        intro m
        induction m with
        | zero =>
          intro y sy hy hm hcy
          rw [ups_step hl hy, List.mem_cons] at hcy
          rcases hcy with rfl | hcy
          · rw [hy] at h1
            cases h1
            rw [ups_step hl hy, hp, ups_step hl e]
            simp
          · rcases hl.par hy with ⟨h4, _⟩ | ⟨_, _, h5⟩
            · rw [h4, ups_zero] at hcy; simp at hcy
            · omega
        | succ m ih =>
          intro y sy hy hm hcy
          rw [ups_step hl hy, List.mem_cons] at hcy
          rcases hcy with rfl | hcy
          · rw [hy] at h1
            cases h1
            rw [ups_step hl hy, hp, ups_step hl e]
            simp
          · rw [ups_step hl hy]
            rcases hl.par hy with ⟨h4, _⟩ | ⟨q, h4, h5⟩
            · rw [h4, ups_zero] at hcy; simp at hcy
            · exact List.mem_cons_of_mem _ (ih _ q h4 (by omega) hcy)
      exact key (lv x) x sx hsx (Nat.le_refl _) h3

/-- On the way up there is one node of each level. -/
theorem ups_one {D : Dc} {lv : Nat → Nat} (hl : Lev D lv) : ∀ (m : Nat) (x : Nat) (s : Sl), sl D x = some s → lv x ≤ m → (∀ y ∈ ups D x, lv y ≤ lv x) ∧ ∀ y ∈ ups D x, ∀ z ∈ ups D x, lv y = lv z → y = z
  | m, x, s, e, hm => by
    rw [ups_step hl e]
    rcases hl.par e with ⟨h1, h2⟩ | ⟨q, h1, h2⟩
    · rw [h1, ups_zero]
      simp
    · cases m with
      | zero => omega
      | succ m =>
        obtain ⟨i1, i2⟩ := ups_one hl m s.parent q h1 (by omega)
        refine ⟨fun y hy => ?_, fun y hy z hz hyz => ?_⟩
        · rcases List.mem_cons.1 hy with rfl | hy
          · exact Nat.le_refl _
          · have := i1 y hy; omega
        · rcases List.mem_cons.1 hy with h3 | h3
          · rcases List.mem_cons.1 hz with h4 | h4
            · rw [h3, h4]
            · have := i1 z h4; rw [h3] at hyz; omega
          · rcases List.mem_cons.1 hz with h4 | h4
            · have := i1 y h3; rw [h4] at hyz; omega
            · exact i2 y h3 z h4 hyz

theorem sib_nodup {D : Dc} (hw : WF D) {lv : Nat → Nat} (hl : Lev D lv) {k : Nat} {l : List Nat} {m : Nat} (hn : l.Nodup) (hm : ∀ c ∈ l, ∃ s, sl D c = some s ∧ lv c = m) (ih : ∀ c ∈ l, (alls D k c).Nodup) : (l.flatMap (alls D k)).Nodup := by
  unfold List.Nodup at *
  rw [List.pairwise_flatMap]
  refine ⟨ih, ?_⟩
  refine List.Pairwise.imp_of_mem (fun {a b} ha hb hab => ?_) hn
  intro x hx y hy he
  subst he
  obtain ⟨sa, h1, h2⟩ := hm a ha
  obtain ⟨sb, h3, h4⟩ := hm b hb
  obtain ⟨⟨s', hs'⟩, u1⟩ := alls_ups hw hl k a sa h1 x hx
  obtain ⟨_, u2⟩ := alls_ups hw hl k b sb h3 x hy
  exact hab ((ups_one hl (lv x) x s' hs' (Nat.le_refl _)).2 a u1 b u2 (by omega))

theorem alls_nodup {D : Dc} (hw : WF D) {lv : Nat → Nat} (hl : Lev D lv) : ∀ (k : Nat) (h : Nat) (s : Sl), sl D h = some s → (alls D k h).Nodup
  | 0, h, s, e => by simp [alls]
  | k + 1, h, s, e => by
    rw [alls, List.nodup_cons]
    refine ⟨fun hx => ?_, sib_nodup hw hl (m := lv h + 1) (hw.nodup h) (fun c hc => ?_) (fun c hc => ?_)⟩
    · obtain ⟨c, hc, hx⟩ := List.mem_flatMap.1 hx
      obtain ⟨s', h1, _, h2⟩ := hw.kid hl e hc
      obtain ⟨_, u⟩ := alls_ups hw hl k c s' h1 h hx
      have := (ups_one hl (lv h) h s e (Nat.le_refl _)).1 c u
      omega
    · obtain ⟨s', h1, _, h2⟩ := hw.kid hl e hc
      exact ⟨s', h1, h2⟩
    · obtain ⟨s', h1, _, _⟩ := hw.kid hl e hc
      exact alls_nodup hw hl k c s' h1

/-- All nodes. -/
def allR (D : Dc) : List Nat := D.roots.flatMap (allH D)

theorem allR_nodup {D : Dc} (hw : WF D) : (allR D).Nodup := by
  obtain ⟨lv, hl⟩ := hw.lev
  have hn := hw.nodup 0
  have e : lst D 0 = D.roots := by simp [lst]
  rw [e] at hn
  exact sib_nodup hw hl (m := 0) hn (fun c hc => by obtain ⟨s, h1, _, h2⟩ := hw.root hl hc; exact ⟨s, h1, h2⟩) (fun c hc => by obtain ⟨s, h1, _, _⟩ := hw.root hl hc; exact alls_nodup hw hl _ c s h1)
theorem allH_nodup {D : Dc} (hw : WF D) {h : Nat} {s : Sl} (e : sl D h = some s) : (allH D h).Nodup := by
  obtain ⟨lv, hl⟩ := hw.lev
  exact alls_nodup hw hl _ h s e
theorem allH_live {D : Dc} (hw : WF D) {h : Nat} {s : Sl} (e : sl D h = some s) : ∀ x ∈ allH D h, ∃ s', sl D x = some s' := by
  obtain ⟨lv, hl⟩ := hw.lev
  exact fun x hx => (alls_ups hw hl _ h s e x hx).1
theorem allR_live {D : Dc} (hw : WF D) : ∀ x ∈ allR D, ∃ s', sl D x = some s' := by
  obtain ⟨lv, hl⟩ := hw.lev
  intro x hx
  obtain ⟨c, hc, hx⟩ := List.mem_flatMap.1 hx
  obtain ⟨s, h1, _⟩ := hw.root hl hc
  exact allH_live hw h1 x hx

theorem nodup_len : ∀ (N : Nat) (L : List Nat), L.Nodup → (∀ x ∈ L, x < N) → L.length ≤ N
  | 0, L, _, h => by
    cases L with
    | nil => simp
    | cons a r => have := h a (by simp); omega
  | N + 1, L, hn, h => by
    have h1 := nodup_len N (L.erase N) (hn.erase N) (fun x hx => by
      have h2 := h x (List.mem_of_mem_erase hx)
      have h3 : x ≠ N := by rintro rfl; exact hn.not_mem_erase hx
      omega)
    by_cases hm : N ∈ L
    · rw [List.length_erase_of_mem hm] at h1; omega
    · rw [List.erase_of_not_mem hm] at h1; omega

/-- Different live nodes have different indexes: there are no more of them than slots. -/
theorem live_len {D : Dc} (hw : WF D) {L : List Nat} (hn : L.Nodup) (hl : ∀ x ∈ L, ∃ s, sl D x = some s) : L.length ≤ D.S.length := by
  have h1 : (L.map fun h => h % 4294967296 - 1).Nodup := by
    unfold List.Nodup
    rw [List.pairwise_map]
    refine List.Pairwise.imp_of_mem (fun {a b} ha hb hab => ?_) hn
    intro he
    obtain ⟨sa, h1⟩ := hl a ha
    obtain ⟨sb, h2⟩ := hl b hb
    obtain ⟨i, a1, a2, a3, a4⟩ := sl_live h1
    obtain ⟨j, b1, b2, b3, b4⟩ := sl_live h2
    obtain ⟨_, _, _, _, a5, _⟩ := atI_some a1
    obtain ⟨_, _, _, _, b5, _⟩ := atI_some b1
    rw [← a5, ← b5] at he
    subst he
    rw [a2] at b2
    cases b2
    exact hab (a4.trans b4.symm)
  have h2 := nodup_len D.S.length _ h1 (fun x hx => by
    obtain ⟨h, hh, rfl⟩ := List.mem_map.1 hx
    obtain ⟨s, hs⟩ := hl h hh
    obtain ⟨i, a1, a2, _⟩ := sl_live hs
    obtain ⟨_, _, _, _, a5, _⟩ := atI_some a1
    have := (List.getElem?_eq_some_iff.1 a2).1
    omega)
  simpa using h2

end Go.Proofs.Ytjkgjckkglfokaa.Gr

/- A node and all within it: the program's gather and All. -/
namespace Go.Proofs.Ytjkgjckkglfokaa.Gr
open Go.RowKit
set_option linter.unusedVariables false
set_option linter.unusedSimpArgs false

def hvals (l : List Nat) : List Value := l.map fun h : Nat => .int .u64 (h : Int)
theorem hvals_length (l : List Nat) : (hvals l).length = l.length := by simp [hvals]
theorem hvals_append (l m : List Nat) : hvals (l ++ m) = hvals l ++ hvals m := by simp [hvals]
theorem hvals_one (l : List Nat) : ∀ u ∈ hvals l, u.oneCell' = true := by
  intro u hu
  obtain ⟨t, _, rfl⟩ := List.mem_map.1 hu
  rfl
theorem info42 : InfoOf Try.prog 27 (.int .u64 0) 1 8 := by unfold InfoOf; kernel_rfl

theorem own_len {w : World} {base : Nat} {e : TypeId} {v : Value} {n : Nat} {xs : List Nat} (h : w.ownsRow base e 1 v n (hvals xs)) : n = xs.length := by
  have := h.1
  rw [hvals_length] at this
  omega

theorem own_after {w w' : World} {base : Nat} {e : TypeId} {size : Nat} {v : Value} {n : Nat} {xs : List Value} (h : w.ownsRow base e size v n xs) (hb : Below w.heap.size w w') : w'.ownsRow base e size v n xs :=
  own_of_block h (fun k hk => hb.block k (own_block_lt h k hk).2)

def GathP (w : World) (base : Nat) (xs ys : List Nat) (e : Ending) (w' : World) : Prop :=
  ∃ v', e = .returned v' ∧ w'.ownsRow base 27 1 v' (xs.length + ys.length) (hvals (xs ++ ys)) ∧ Below base w w'
def GathAll (D : Dc) (R : Nat → Prop) (db : Nat) (lv : Nat → Nat) (k : Nat) : Prop := ∀ (w : World) (v : Value) (n : Nat) (xs : List Nat) (a : Option Addr) (l : List Nat) (cap base : Nat), View w R db D → (∀ b, R b → b < base) → base ≤ w.heap.size → w.ownsRow base 27 1 v n (hvals xs) → HandsAt w R a l →
    (∀ h ∈ l, ∃ s, sl D h = some s ∧ 64 - lv h ≤ k) → xs.length + (l.flatMap (allH D)).length ≤ 1000000 → l.length ≤ 1000000 → Calls Try.prog 106 #[.pointer (some ⟨db, 0, none⟩), v, .slice a l.length cap] w (GathP w base xs (l.flatMap (allH D)))

theorem flatMap_snoc {α β : Type} {l : List α} {f : α → List β} {i : Nat} {x : α} (h : l[i]? = some x) : (l.take (i + 1)).flatMap f = (l.take i).flatMap f ++ f x := by
  rw [take_more h, List.flatMap_append]
  simp
theorem flatMap_part {α β : Type} (l : List α) (f : α → List β) (i : Nat) : ((l.take i).flatMap f).length ≤ (l.flatMap f).length := by
  have : l.flatMap f = (l.take i).flatMap f ++ (l.drop i).flatMap f := by rw [← List.flatMap_append, List.take_append_drop]
  rw [this]
  simp

set_option maxRecDepth 100000 in
set_option maxHeartbeats 1000000 in
theorem gather_step (D : Dc) (R : Nat → Prop) (db : Nat) (lv : Nat → Nat) (hw : WF D) (hl : Lev D lv) (k : Nat) (ih : ∀ j, j + 1 = k → GathAll D R db lv j) : GathAll D R db lv k := by
  intro w v n xs a l cap base hv hR hbase hown hat hlive htot hll
  have hn := own_len hown
  subst hn
  obtain ⟨va, vc, rfl⟩ := own_slice hown
  have HV : Hid (View w R db D) := hv
  have HW : Hid (WF D) := hw
  have HL : Hid (Lev D lv) := hl
  have HR : Hid (∀ b, R b → b < base) := hR
  have HAT : Hid (HandsAt w R a l) := hat
  have HLV : Hid (∀ h ∈ l, ∃ s, sl D h = some s ∧ 64 - lv h ≤ k) := hlive
  have HIH : Hid (∀ j, j + 1 = k → GathAll D R db lv j) := ih
  have HOW : Hid (w.ownsRow base 27 1 (.slice va xs.length vc) xs.length (hvals xs)) := hown
  clear hv hw hl hR hat hlive ih hown
  go_enter Try.func106, Try.ntmps106
  go_wp2
  go_loopw [1, 8, 11] (fun q _ iv wr => ∃ (i : Nat) (qa : Option Addr) (qc : Nat), i ≤ l.length ∧ iv = .int .i64 (i : Int) ∧ q = .slice qa (xs ++ (l.take i).flatMap (allH D)).length qc ∧ Hid (wr.ownsRow base 27 1 (.slice qa (xs ++ (l.take i).flatMap (allH D)).length qc) (xs ++ (l.take i).flatMap (allH D)).length (hvals (xs ++ (l.take i).flatMap (allH D)))) ∧ Hid (Below base w wr)) (fun _ _ iv _ => l.length - (intOf iv).toNat)
  case atStart => exact ⟨0, va, vc, by omega, rfl, by simp, (by rw [List.take_zero, List.flatMap_nil, List.append_nil]; exact HOW), Below.refl _ _⟩
  case round =>
    obtain ⟨i, qa, qc, hi, rfl, rfl, hrow, hbw⟩ := hrel
    have hbs := hbw.out.size
    by_cases hlt : i < l.length
    · obtain ⟨x, hx⟩ : ∃ x, l[i]? = some x := ⟨_, List.getElem?_eq_getElem hlt⟩
      obtain ⟨s, hs, hk⟩ := HLV.out x (List.mem_of_getElem? hx)
      obtain ⟨b, o, ha, hbR, hc⟩ := HAT.out i x hx
      subst ha
      have hbb := HR.out b hbR
      have hc' : wr.cell? ⟨b, o + i, none⟩ = some (.int .u64 (x : Int)) := (hbw.out.cell (p := ⟨b, _, none⟩) hbb).trans hc
      have hbl : b < wr.heap.size := by omega
      have hvr : View wr R db D := HV.out.to (fun _ h => h) (fun b hb => by have := HR.out b hb; omega) (fun b o hb => hbw.out.cell (p := ⟨b, o, none⟩) (HR.out b hb))
      obtain ⟨hxl, -, j, haj, hsj, -⟩ := HW.out.lt hs
      have hst := allH_step HW.out hs
      have hsn := flatMap_snoc (f := allH D) hx
      have hpt := flatMap_part l (allH D) (i + 1)
      have hkd : ∀ c ∈ lst D x, ∃ s, sl D c = some s ∧ 64 - lv c ≤ k - 1 := fun c hc => by
        obtain ⟨s', h1, _, h2⟩ := HW.out.kid HL.out hs hc
        exact ⟨s', h1, by omega⟩
      have hlv63 := (HL.out x s hs).1
      have hih := HIH.out (k - 1) (by omega)
      rw [hst] at hsn
      have hszA : (xs ++ (l.take i).flatMap (allH D)).length + 1 + ((lst D x).flatMap (allH D)).length ≤ 1000000 := by
        rw [hsn] at hpt
        simp only [List.length_append, List.length_cons] at hpt ⊢
        omega
      have hkl : (lst D x).length ≤ 1000000 := by
        have hks : ((lst D x).length ≤ ((lst D x).flatMap (allH D)).length) := by
          clear hszA hpt hsn hst hih
          have : ∀ (m : List Nat), (∀ c ∈ m, ∃ s, sl D c = some s) → m.length ≤ (m.flatMap (allH D)).length := by
            intro m
            induction m with
            | nil => simp
            | cons c r ihm =>
              intro hm
              obtain ⟨sc, hsc⟩ := hm c (by simp)
              have := ihm (fun c hc => hm c (by simp [hc]))
              rw [List.flatMap_cons, allH_step HW.out hsc]
              simp only [List.length_cons, List.length_append]
              omega
          exact this _ (fun c hc => by obtain ⟨s', h1, _⟩ := hkd c hc; exact ⟨s', h1⟩)
        omega
      generalize hXS : xs ++ (l.take i).flatMap (allH D) = XS at *
      have HSN : Hid (xs ++ (l.take (i + 1)).flatMap (allH D) = XS ++ [x] ++ (lst D x).flatMap (allH D)) := by
        show _ = _
        rw [hsn, ← hXS]
        simp
      have HVR : Hid (View wr R db D) := hvr
      have HKD : Hid (∀ c ∈ lst D x, ∃ s, sl D c = some s ∧ 64 - lv c ≤ k - 1) := hkd
      have HS : Hid (sl D x = some s) := hs
      have HAJ : Hid (atI D.S x = some j) := haj
      have HSJ : Hid (D.S[j]? = some s) := hsj
      clear hsn hst hpt hXS hvr hkd hs haj hsj hx hk HLV HIH HOW hc
      have tok : True := trivial
      go_wp2_with (at_builtin; have _t := tok; refine wpList_app rfl _ _ rfl Try.underlying23 info42 rfl (by decide) base (.slice qa XS.length qc) XS.length (hvals XS) rfl (own_of_block hrow.out (fun k hk => Below.heap_alloc _ _ _ (own_block_lt hrow.out k hk).2)) (some ⟨wr.heap.size, 0, none⟩) 1 1 [.int .u64 (x : Int)] rfl rfl (news_new wr #[.int .u64 (x : Int)] 27) (by simp [Value.oneCell']) (by unfold maxLen; omega) (by omega) (by simp; omega) ?_; intro v1 w1 hown1 hg1 _ hat1; clear tok _t; obtain ⟨va1, vc1, hv1⟩ := own_slice hown1; subst hv1; have HO1 : Hid (w1.ownsRow base 27 1 (.slice va1 (XS.length + 1) vc1) (XS.length + 1) (hvals (XS ++ [x]))) := (by rw [hvals_append]; exact hown1); have HB1 : Hid (Below base w w1) := (hbw.out.alloc (by omega) _).grown hg1 (by simp; omega) (fun k hk => (own_block_lt hrow.out k hk).1); clear hown1 hg1 hat1)
      have hv1 : View w1 R db D := HV.out.to (fun _ h => h) (fun b hb => by have := HR.out b hb; have := HB1.out.size; omega) (fun b o hb => HB1.out.cell (p := ⟨b, o, none⟩) (HR.out b hb))
      have hs1 := HB1.out.size
      obtain ⟨b2, o2, cap2, aa, ac, ka, kc, g1, gcl, gbR, c0, c1, c2, c3, c4, c5, c6, c7, l1, l2, -, hkat⟩ := hv1.slot HSJ.out
      have hfi := find_some w1 R db D x j hv1 HW.out.fits hxl HAJ.out b2 o2 cap2 g1
      have hb2l := HR.out b2 gbR
      have hek : lst D x = s.kids := by
        have h0 : x ≠ 0 := by rintro rfl; have := HS.out; rw [sl_zero] at this; cases this
        have := HS.out
        simp [lst, h0, this]
      rw [hek] at hszA hkl
      have HKD2 : Hid (∀ c ∈ s.kids, ∃ s, sl D c = some s ∧ 64 - lv c ≤ k - 1) := by rw [← hek]; exact HKD
      have HSN2 : Hid (xs ++ (l.take (i + 1)).flatMap (allH D) = XS ++ [x] ++ s.kids.flatMap (allH D)) := by rw [← hek]; exact HSN
      have HKA : Hid (HandsAt w1 R ka s.kids) := hkat
      have HV1 : Hid (View w1 R db D) := hv1
      have hb2s : b2 < w1.heap.size := by omega
      clear c0 c1 c2 c3 c4 c5 c6 hkat hv1 g1 gcl HKD HSN hek HAJ HSJ HS hc' hrow
      refine hfi.mono ?_
      rintro e w2 ⟨rfl, hb2⟩
      obtain ⟨hcc, -⟩ := bcell hb2
      have HB2 : Hid (Below w1.heap.size w1 w2) := hb2
      have hs2 := hb2.size
      clear hb2 hfi
      go_wp2_with fail
      refine (hih w2 _ (XS.length + 1) (XS ++ [x]) ka s.kids kc base (HV1.out.below HB2.out) HR.out (by omega) (own_after HO1.out HB2.out) (HKA.out.to (fun _ h => h) (fun b o hb => HB2.out.cell (p := ⟨b, o, none⟩) (by have := HR.out b hb; show b < w1.heap.size; omega))) HKD2.out (by rw [List.length_append]; simpa using hszA) hkl).mono ?_
      rintro e w3 ⟨v3, rfl, hown3, hb3⟩
      obtain ⟨va3, vc3, hv3⟩ := own_slice hown3
      subst hv3
      have hln : (XS ++ [x]).length + (s.kids.flatMap (allH D)).length = (xs ++ (l.take (i + 1)).flatMap (allH D)).length := by rw [HSN2.out]; simp; omega
      rw [hln, ← HSN2.out] at hown3
      rw [hln]
      clear hln
      generalize hN : (xs ++ (l.take (i + 1)).flatMap (allH D)).length = N at hown3 ⊢
      have HN : Hid ((xs ++ (l.take (i + 1)).flatMap (allH D)).length = N) := hN
      have HO3 : Hid (w3.ownsRow base 27 1 (.slice va3 N vc3) N (hvals (xs ++ (l.take (i + 1)).flatMap (allH D)))) := hown3
      have HB3 : Hid (Below base w w3) := (HB1.out.trans (HB2.out.mono (by omega))).trans hb3
      clear hown3 hb3 hN HB2 HB1 HO1 HKA HV1 HKD2 HSN2 hcc hszA hkl hih
      go_wp2
      go_roundw
      case rel => exact ⟨i + 1, va3, vc3, by omega, by go_num, by rw [HN.out], by rw [HN.out]; exact HO3, HB3⟩
      case measure => simp [intOf]; omega
    · have hie : i = l.length := by omega
      subst hie
      have hr := hrow.out
      rw [List.take_length] at hr
      have HR2 : Hid (wr.ownsRow base 27 1 (.slice qa (xs ++ l.flatMap (allH D)).length qc) (xs ++ l.flatMap (allH D)).length (hvals (xs ++ l.flatMap (allH D)))) := hr
      rw [List.take_length]
      clear hr hrow HIH
      go_wp2
      go_ret
      exact ⟨_, rfl, by rw [← List.length_append]; exact HR2.out, hbw.out⟩

theorem gather_any (D : Dc) (R : Nat → Prop) (db : Nat) (lv : Nat → Nat) (hw : WF D) (hl : Lev D lv) : ∀ k, GathAll D R db lv k
  | 0 => gather_step D R db lv hw hl 0 (fun j hj => by omega)
  | k + 1 => gather_step D R db lv hw hl (k + 1) (fun j hj => by
    have : j = k := by omega
    subst this
    exact gather_any D R db lv hw hl j)

end Go.Proofs.Ytjkgjckkglfokaa.Gr

/- All: the program's and the document's. -/
namespace Go.Proofs.Ytjkgjckkglfokaa.Gr
open Go.RowKit
set_option linter.unusedVariables false
set_option linter.unusedSimpArgs false

def AllP (w : World) (ys : List Nat) (e : Ending) (w' : World) : Prop :=
  ∃ a cap, e = .returned (.tuple #[.slice a ys.length cap, .int .i64 0]) ∧ w'.ownsRow w.heap.size 27 1 (.slice a ys.length cap) ys.length (hvals ys) ∧ Below w.heap.size w w'

theorem own_nil (w : World) (base : Nat) (e : TypeId) (size : Nat) : w.ownsRow base e size (.slice none 0 0) 0 [] := ⟨by simp, .inl ⟨rfl, rfl⟩⟩

theorem roots_len {D : Dc} (hw : WF D) : D.roots.length ≤ 4096 ∧ (allR D).length ≤ 4096 := by
  have h1 := live_len hw (allR_nodup hw) (allR_live hw)
  have hl := hw.fits.len
  have hn := hw.nodup 0
  have e : lst D 0 = D.roots := by simp [lst]
  rw [e] at hn
  obtain ⟨lv, hlv⟩ := hw.lev
  have h2 := live_len hw hn (fun x hx => by obtain ⟨s, h, _⟩ := hw.root hlv hx; exact ⟨s, h⟩)
  omega
theorem kids_len {D : Dc} (hw : WF D) {h : Nat} {s : Sl} (e : sl D h = some s) : s.kids.length ≤ 4096 ∧ (allH D h).length ≤ 4096 := by
  have h1 := live_len hw (allH_nodup hw e) (allH_live hw e)
  have hl := hw.fits.len
  have hn := hw.nodup h
  have h0 : h ≠ 0 := by rintro rfl; rw [sl_zero] at e; cases e
  have ek : lst D h = s.kids := by simp [lst, h0, e]
  obtain ⟨lv, hlv⟩ := hw.lev
  have h2 := live_len hw hn (fun x hx => by obtain ⟨s, h, _⟩ := hw.kid hlv e hx; exact ⟨s, h⟩)
  rw [ek] at h2
  omega
theorem lst_len {D : Dc} (hw : WF D) {p : Nat} (hp : p = 0 ∨ ∃ s, sl D p = some s) : (lst D p).length ≤ 4096 := by
  rcases hp with rfl | ⟨s, hs⟩
  · have := (roots_len hw).1
    simpa [lst] using this
  · have h0 : p ≠ 0 := by rintro rfl; rw [sl_zero] at hs; cases hs
    have := (kids_len hw hs).1
    simpa [lst, h0, hs] using this

set_option maxRecDepth 100000 in
set_option maxHeartbeats 1000000 in
theorem pall_zero (w : World) (R : Nat → Prop) (db : Nat) (D : Dc) (hv : View w R db D) (hw : WF D) :
    Calls Try.prog 61 #[.pointer (some ⟨db, 0, none⟩), .int .u64 0] w (AllP w (allR D)) := by
  obtain ⟨lv, hl⟩ := hw.lev
  obtain ⟨a, cap, h1, h2, h3⟩ := hv.roots
  have hrl := roots_len hw
  have hg := gather_any D R db lv hw hl 64 w (.slice none 0 0) 0 [] a D.roots cap w.heap.size hv hv.lt (Nat.le_refl _) (own_nil _ _ _ _) h3 (fun h hh => by
    obtain ⟨s, h1, _, h2⟩ := hw.root hl hh
    exact ⟨s, h1, by omega⟩) (by show 0 + (allR D).length ≤ _; omega) (by omega)
  clear h3 hv hw hl
  go_enter Try.func61, Try.ntmps61
  go_wp2_with fail
  refine hg.mono ?_
  rintro e w' ⟨v', rfl, hown, hb⟩
  have e1 : D.roots.flatMap (allH D) = allR D := rfl
  rw [e1, List.length_nil, Nat.zero_add, List.nil_append] at hown
  obtain ⟨va, vc, hv⟩ := own_slice hown
  subst hv
  generalize hN : (allR D).length = N at *
  have HN : Hid ((allR D).length = N) := hN
  have HO : Hid (w'.ownsRow w.heap.size 27 1 (.slice va N vc) N (hvals (allR D))) := hown
  have HB : Hid (Below w.heap.size w w') := hb
  clear hown hb hg hN e1
  go_wp2
  go_ret2
  exact ⟨va, vc, by rw [HN.out]; rfl, by rw [HN.out]; exact HO.out, HB.out⟩

end Go.Proofs.Ytjkgjckkglfokaa.Gr

/- All, by the document. -/
namespace Go.Proofs.Ytjkgjckkglfokaa.Gr
open Go.RowKit
set_option linter.unusedVariables false
set_option linter.unusedSimpArgs false

theorem WF.ltz {D : Dc} (hw : WF D) {h : Nat} (hh : h = 0 ∨ ∃ s, sl D h = some s) : h < 18446744073709551616 := by
  rcases hh with rfl | ⟨s, hs⟩
  · omega
  · exact (hw.lt hs).1

end Go.Proofs.Ytjkgjckkglfokaa.Gr

/- All of the document at its face; heights. -/
namespace Go.Proofs.Ytjkgjckkglfokaa.Gr
open Go.RowKit
set_option linter.unusedVariables false
set_option linter.unusedSimpArgs false

/-- How many nodes lie from a node down to the deepest one within it. -/
def hgts (D : Dc) : Nat → Nat → Nat
  | 0, _ => 0
  | k + 1, h => ((lst D h).map (hgts D k)).foldl max 0 + 1
def hgt (D : Dc) (h : Nat) : Nat := hgts D 64 h

theorem foldl_max_le (l : List Nat) (N a : Nat) (ha : a ≤ N) (h : ∀ x ∈ l, x ≤ N) : l.foldl max a ≤ N := by
  induction l generalizing a with
  | nil => exact ha
  | cons x r ih => exact ih (max a x) (by have := h x (by simp); omega) (fun y hy => h y (by simp [hy]))

theorem hgts_eq {D : Dc} (hw : WF D) {lv : Nat → Nat} (hl : Lev D lv) : ∀ (k : Nat) (h : Nat) (s : Sl), sl D h = some s → 64 - lv h ≤ k → ∀ j, 64 - lv h ≤ j → hgts D k h = hgts D j h
  | 0, h, s, e, hk => by have := (hl h s e).1; omega
  | k + 1, h, s, e, hk => by
    intro j hj
    cases j with
    | zero => have := (hl h s e).1; omega
    | succ j =>
      rw [hgts, hgts]
      have : (lst D h).map (hgts D k) = (lst D h).map (hgts D j) := List.map_congr_left fun c hc => by
        obtain ⟨s', h1, _, h2⟩ := hw.kid hl e hc
        exact hgts_eq hw hl k c s' h1 (by omega) j (by omega)
      rw [this]

theorem hgt_step {D : Dc} (hw : WF D) {h : Nat} {s : Sl} (e : sl D h = some s) : hgt D h = ((lst D h).map (hgt D)).foldl max 0 + 1 := by
  obtain ⟨lv, hl⟩ := hw.lev
  unfold hgt
  rw [hgts]
  have : (lst D h).map (hgts D 63) = (lst D h).map (hgts D 64) := List.map_congr_left fun c hc => by
    obtain ⟨s', h1, _, h2⟩ := hw.kid hl e hc
    exact hgts_eq hw hl 63 c s' h1 (by omega) 64 (by omega)
  rw [this]
end Go.Proofs.Ytjkgjckkglfokaa.Gr

/- How many nodes a tree has, and how deep it is: the program's answer and the document's. -/
namespace Go.Proofs.Ytjkgjckkglfokaa.Gr
open Go.RowKit
set_option linter.unusedVariables false
set_option linter.unusedSimpArgs false

/-- Every node of the tree can be by itself. -/
def okT : (n : Nat) → T n → Prop
  | 0, _ => True
  | n + 1, t => ownE t = 0 ∧ ∀ k ∈ kidsT t, okT n k
def ndT : (n : Nat) → T n → Nat
  | 0, _ => 0
  | n + 1, t => ((kidsT t).map (ndT n)).sum + 1
def htT : (n : Nat) → T n → Nat
  | 0, _ => 0
  | n + 1, t => ((kidsT t).map (htT n)).foldl max 0 + 1

theorem foldl_max_ge (l : List Nat) : ∀ a, a ≤ l.foldl max a ∧ ∀ x ∈ l, x ≤ l.foldl max a := by
  induction l with
  | nil => intro a; simp
  | cons y r ih =>
    intro a
    obtain ⟨h1, h2⟩ := ih (max a y)
    refine ⟨by simp only [List.foldl_cons]; omega, fun x hx => ?_⟩
    rcases List.mem_cons.1 hx with rfl | hx
    · simp only [List.foldl_cons]; omega
    · exact h2 x hx

/-- A tree that can be: what Check counts. -/
theorem chk_ok : ∀ (n : Nat) (t : T n) (d a : Int), 0 ≤ a → a ≤ 4096 → d ≤ 65 → (chk n t d a).2 = 0 → okT n t ∧ (chk n t d a).1 = a + ndT n t ∧ d + htT n t ≤ 65
  | 0, t, d, a, _, _, hd, h => by simp [okT, chk, ndT, htT]; exact hd
  | n + 1, t, d, a, h0, h1, hd, h => by
    rw [chk] at h ⊢
    by_cases hx : 64 < d ∨ 4096 ≤ a
    · rw [if_pos hx] at h; simp at h
    · rw [if_neg hx] at h ⊢
      by_cases ho : ownE t = 0
      · rw [if_pos ho] at h ⊢
        have key : ∀ (L : List (T n)) (a : Int), 0 ≤ a → a ≤ 4096 → (chkL (fun k x => chk n k (d + 1) x) L a).2 = 0 → (∀ k ∈ L, okT n k) ∧ (chkL (fun k x => chk n k (d + 1) x) L a).1 = a + ((L.map (ndT n)).sum : Nat) ∧ (∀ k ∈ L, d + 1 + htT n k ≤ 65) := by
          intro L
          induction L with
          | nil => intro a _ _ _; simp [chkL]
          | cons k r ih =>
            intro a ha0 ha1 hc
            rw [chkL] at hc ⊢
            by_cases he : (chk n k (d + 1) a).2 = 0
            · rw [if_pos he] at hc ⊢
              obtain ⟨g1, g2, g3⟩ := chk_ok n k (d + 1) a ha0 ha1 (by omega) he
              have hle := chk_le n k (d + 1) a ha1
              have hge := chk_ge n k (d + 1) a
              obtain ⟨i1, i2, i3⟩ := ih _ (by omega) hle hc
              refine ⟨fun x hx => ?_, ?_, fun x hx => ?_⟩
              · rcases List.mem_cons.1 hx with rfl | hx
                · exact g1
                · exact i1 x hx
              · rw [i2, g2]
                simp only [List.map_cons, List.sum_cons]
                omega
              · rcases List.mem_cons.1 hx with rfl | hx
                · exact g3
                · exact i3 x hx
            · rw [if_neg he] at hc
              exact absurd hc he
        obtain ⟨k1, k2, k3⟩ := key (kidsT t) (a + 1) (by omega) (by omega) h
        refine ⟨⟨ho, k1⟩, ?_, ?_⟩
        · rw [k2, ndT]; omega
        · rw [htT]
          have := foldl_max_le ((kidsT t).map (htT n)) (64 - d).toNat 0 (by omega) (fun x hx => by
            obtain ⟨c, hc, rfl⟩ := List.mem_map.1 hx
            have := k3 c hc
            omega)
          omega
      · rw [if_neg ho] at h
        exact absurd h ho

theorem sum_part (l : List Nat) (i : Nat) : (l.take i).sum ≤ l.sum := by
  have h := congrArg List.sum (List.take_append_drop i l)
  rw [List.sum_append] at h
  omega
theorem ndT_pos : ∀ (n : Nat) (t : T (n + 1)), 1 ≤ ndT (n + 1) t := fun n t => by rw [ndT]; omega

def MeaP (w : World) (x y : Nat) (e : Ending) (w' : World) : Prop := e = .returned (.tuple #[.int .i64 (x : Int), .int .i64 (y : Int)]) ∧ Below w.heap.size w w'
def MeaAll (n : Nat) : Prop := ∀ (w : World) (v : Array Value) (t : T n) (lo hi : Nat), TreeAt w lo hi n v t → hi ≤ w.heap.size → okT n t → ndT n t ≤ 4096 → htT n t ≤ 4096 → Calls Try.prog 100 #[.agg v] w (MeaP w (ndT n t) (htT n t))

set_option maxRecDepth 100000 in
set_option maxHeartbeats 1000000 in
theorem measure_any : ∀ (n : Nat), MeaAll n
  | 0 => fun _ _ _ _ _ h => h.elim
  | n + 1 => by
    intro w v t lo hi h hsz hok hnd hht
    have ih := measure_any n
    obtain ⟨a, ac, ka, kc, rfl, hal, hkl, hac, hkc, hat, hkt⟩ := id h
    unfold tv at h ⊢
    obtain ⟨ho, hkk⟩ := hok
    obtain ⟨ka', kc', hk1, -, hkat, hkm⟩ := h.kids ho
    have hko := fun W => kidsOf_any W t.kind t.name a t.attrs.length ac t.text ka t.kids.length kc
    rw [hk1] at hko
    unfold maxK at hkm
    have HKT : Hid (KidsAt w lo hi n ka' (kidsT t)) := hkat
    have HOK : Hid (∀ k ∈ kidsT t, okT n k) := hkk
    have HND : Hid (ndT (n + 1) t = ((kidsT t).map (ndT n)).sum + 1) := rfl
    have HHT : Hid (htT (n + 1) t = ((kidsT t).map (htT n)).foldl max 0 + 1) := rfl
    have HBN : Hid (Below w.heap.size w (w.alloc (.cells #[.int .i64 t.kind, .string t.name, .slice a t.attrs.length ac, .string t.text, .slice ka t.kids.length kc] 99))) := below_new' w _
    clear hal hkl hac hkc hat hkt h ho hkk hkat hk1
    generalize kidsT t = L at *
    go_enter Try.func100, Try.ntmps100
    go_wp2_with fail
    refine (hko _).mono ?_
    rintro e w1 ⟨rfl, hb1⟩
    have HB1 : Hid (Below w.heap.size w w1) := HBN.out.trans (hb1.mono (by simp))
    clear hb1 hko
    go_wp2
    go_loopw [2, 3, 11] (fun q r iv wr => ∃ (j x y : Nat), j ≤ L.length ∧ iv = .int .i64 (j : Int) ∧ q = .int .i64 (x : Int) ∧ r = .int .i64 (y : Int) ∧ x ≤ 4096 ∧ y ≤ 4096 ∧ Hid (((L.take j).map (ndT n)).sum = x) ∧ Hid (((L.take j).map (htT n)).foldl max 0 = y) ∧ Hid (Below w.heap.size w wr)) (fun _ _ iv _ => L.length - (intOf iv).toNat)
    case atStart => exact ⟨0, 0, 0, by omega, rfl, rfl, rfl, by omega, by omega, rfl, rfl, HB1⟩
    case round =>
      obtain ⟨j, x, y, hj, rfl, rfl, rfl, hx, hy, hsx, hsy, hbw⟩ := hrel
      have hbs := hbw.out.size
      clear HB1
      by_cases hlt : j < L.length
      · obtain ⟨k, hk⟩ : ∃ k, L[j]? = some k := ⟨_, List.getElem?_eq_getElem hlt⟩
        have hkt' := HKT.out.below hbw.out hsz
        obtain ⟨b, o, kk, nm, a', al', ac', tx, ka2, kl2, kc2, rfl, hb1, hb2, c0, c1, c2, c3, c4, htr⟩ := hkt'.get hk
        have hbr : b < wr.heap.size := by omega
        have hmk : k ∈ L := List.mem_of_getElem? hk
        have hnk : x + ndT n k ≤ 4096 := by
          have h1 := sum_part (L.map (ndT n)) (j + 1)
          have h2 := HND.out
          rw [← List.map_take, take_more hk, List.map_append, List.sum_append, hsx.out] at h1
          simp at h1
          omega
        have hhk : htT n k ≤ 4096 := by
          have h1 := (foldl_max_ge (L.map (htT n)) 0).2 (htT n k) (List.mem_map_of_mem hmk)
          have h2 := HHT.out
          omega
        have hih := ih (wr.alloc (.cells #[.int .i64 kk, .string nm, .slice a' al' ac', .string tx, .slice ka2 kl2 kc2] 99)) _ k lo hi (htr.below (below_new' wr _) (by omega)) (by simp; omega) (HOK.out k hmk) (by omega) hhk
        have HSX : Hid (((L.take (j + 1)).map (ndT n)).sum = x + ndT n k) := by
          show _ = _
          rw [take_more hk, List.map_append, List.sum_append, hsx.out]
          simp
        have HSY : Hid (((L.take (j + 1)).map (htT n)).foldl max 0 = max y (htT n k)) := by
          show _ = _
          rw [take_more hk, List.map_append, List.foldl_append, hsy.out]
          rfl
        generalize ndT n k = p at *
        generalize htT n k = q at *
        clear hkt' hk htr hsx hsy hmk
        go_wp2_with fail
        refine hih.mono ?_
        rintro e w2 ⟨rfl, hb2⟩
        have HB2 : Hid (Below w.heap.size w w2) := (hbw.out.alloc hbs _).trans (hb2.mono (by simp; omega))
        clear hb2 hih c0 c1 c2 c3 c4
        go_wp2
        refine ⟨⟨j + 1, x + p, max y q, by omega, by go_num, by go_num, congrArg _ (by split <;> omega), by omega, by omega, HSX, HSY, HB2⟩, ?_⟩
        simp [intOf]
        omega
      · have hje : j = L.length := by omega
        subst hje
        have e1 : ndT (n + 1) t = x + 1 := by rw [HND.out, ← hsx.out, List.take_length]
        have e2 : htT (n + 1) t = y + 1 := by rw [HHT.out, ← hsy.out, List.take_length]
        have H1 : Hid (ndT (n + 1) t = x + 1) := e1
        have H2 : Hid (htT (n + 1) t = y + 1) := e2
        clear e1 e2 hsx hsy ih hnd hht
        go_wp2
        go_ret2
        exact ⟨congrArg _ (v_two (by rw [H1.out]; omega) (by rw [H2.out]; omega)), hbw.out⟩

end Go.Proofs.Ytjkgjckkglfokaa.Gr

/- Places: the program's isPlace, fits, findKind, canGive; the document's place, taken, Len. -/
namespace Go.Proofs.Ytjkgjckkglfokaa.Gr
open Go.RowKit
set_option linter.unusedVariables false
set_option linter.unusedSimpArgs false
attribute [local go_sem] Bel.cell Bel.fz

def isPlaceB (wh : Int) (a : Nat) : Bool := decide (wh = 1 ∨ wh = 2 ∨ ((wh = 3 ∨ wh = 4) ∧ a ≠ 0))

set_option maxRecDepth 100000 in
set_option maxHeartbeats 400000 in
theorem isPlace_any (w : World) (wh : Int) (a : Nat) : Calls Try.prog 96 #[.int .i64 wh, .int .u64 (a : Int)] w fun e w' => e = .returned (.bool (isPlaceB wh a)) ∧ w' = w := by
  by_cases h1 : wh = 1
  · subst h1
    go_enter Try.func96, Try.ntmps96
    go_wp2
    go_ret
    exact ⟨rfl, rfl⟩
  · by_cases h2 : wh = 2
    · subst h2
      go_enter Try.func96, Try.ntmps96
      go_wp2
      go_ret
      exact ⟨rfl, rfl⟩
    · by_cases h3 : wh = 3
      · subst h3
        go_enter Try.func96, Try.ntmps96
        go_wp2
        go_ret
        refine ⟨congrArg _ (v_bool (Bool.eq_iff_iff.2 ?_)), rfl⟩
        simp [isPlaceB]
        try omega
      · by_cases h4 : wh = 4
        · subst h4
          go_enter Try.func96, Try.ntmps96
          go_wp2
          go_ret
          refine ⟨congrArg _ (v_bool (Bool.eq_iff_iff.2 ?_)), rfl⟩
          simp [isPlaceB]
          try omega
        · have e1 : isPlaceB wh a = false := by simp [isPlaceB, h1, h2, h3, h4]
          rw [e1]
          have b1 : (wh == 1) = false := beq_eq_false_iff_ne.2 h1
          have b2 : (wh == 2) = false := beq_eq_false_iff_ne.2 h2
          have b3 : (wh == 3) = false := beq_eq_false_iff_ne.2 h3
          have b4 : (wh == 4) = false := beq_eq_false_iff_ne.2 h4
          clear h1 h2 h3 h4 e1
          go_enter Try.func96, Try.ntmps96
          go_wp2
          go_ret
          exact ⟨rfl, rfl⟩

/-- What forbids that a subtree of such a height lies under a parent. -/
def fitsE (D : Dc) (p ht : Nat) : Int := if (∃ s, sl D p = some s ∧ s.kind = 2) then 31 else if 64 < (ups D p).length + ht then 32 else 0

set_option maxRecDepth 100000 in
set_option maxHeartbeats 400000 in
theorem fits_any (w : World) (R : Nat → Prop) (db : Nat) (D : Dc) (p ht : Nat) (hv : View w R db D) (hw : WF D) (hp : p = 0 ∨ ∃ s, sl D p = some s) (hht : ht ≤ 4096) (z : Int) (hz : fitsE D p ht = z) :
    Calls Try.prog 101 #[.pointer (some ⟨db, 0, none⟩), .int .u64 (p : Int), .int .i64 (ht : Int)] w fun e w' => e = .returned (.int .i64 z) ∧ Below w.heap.size w w' := by
  obtain ⟨lv, hlv⟩ := hw.lev
  have hul : (ups D p).length ≤ 64 := by rw [ups_length hlv hp]; exact dep_le hlv hp
  have hdp := fun W (hb : Below w.heap.size w W) => depth_any W R db D p (hv.below hb) hw hp
  have HDP : Hid (∀ W, Below w.heap.size w W → Calls Try.prog 117 #[.pointer (some ⟨db, 0, none⟩), .int .u64 (p : Int)] W fun e w' => e = .returned (.int .i64 ((ups D p).length : Int)) ∧ Below W.heap.size W w') := hdp
  have hpl := hw.ltz hp
  clear hdp hlv
  cases hs : sl D p with
  | none =>
    have hfi := find_none w R db D p hv hw.fits hpl (sl_none hs)
    have hz' : (if 64 < (ups D p).length + ht then (32 : Int) else 0) = z := by
      have hn : ¬ (∃ s, sl D p = some s ∧ s.kind = 2) := by
        rintro ⟨s, h, _⟩
        rw [hs] at h
        cases h
      rw [← hz, fitsE, if_neg hn]
    generalize (ups D p).length = u at *
    clear hv hw hp hz hs
    by_cases hc : 64 < u + ht
    · rw [if_pos hc] at hz'
      have HZ : Hid (32 = z) := hz'
      clear hz'
      go_enter Try.func101, Try.ntmps101
      go_wp2_with fail
      refine hfi.mono ?_
      rintro e w1 ⟨rfl, hb1⟩
      have HB1 : Hid (Below w.heap.size w w1) := hb1
      clear hb1 hfi
      go_wp2_with fail
      refine (HDP.out w1 HB1.out).mono ?_
      rintro e w2 ⟨rfl, hb2⟩
      have HB2 : Hid (Below w.heap.size w w2) := HB1.out.trans (hb2.mono HB1.out.size)
      clear hb2
      go_wp2
      go_ret
      exact ⟨congrArg _ (v_int HZ.out), HB2.out⟩
    · rw [if_neg hc] at hz'
      have HZ : Hid (0 = z) := hz'
      clear hz'
      go_enter Try.func101, Try.ntmps101
      go_wp2_with fail
      refine hfi.mono ?_
      rintro e w1 ⟨rfl, hb1⟩
      have HB1 : Hid (Below w.heap.size w w1) := hb1
      clear hb1 hfi
      go_wp2_with fail
      refine (HDP.out w1 HB1.out).mono ?_
      rintro e w2 ⟨rfl, hb2⟩
      have HB2 : Hid (Below w.heap.size w w2) := HB1.out.trans (hb2.mono HB1.out.size)
      clear hb2
      go_wp2
      go_ret
      exact ⟨congrArg _ (v_int HZ.out), HB2.out⟩
  | some s =>
    obtain ⟨i, ha, hsi, -⟩ := sl_live hs
    obtain ⟨b, o, cap, aa, ac, ka, kc, h1, hcl, hbR, c0, c1, c2, -⟩ := hv.slot hsi
    have hfi := find_some w R db D p i hv hw.fits hpl ha b o cap h1
    have hbl := hv.lt b hbR
    by_cases k2 : s.kind = 2
    · have hz' : z = 31 := by rw [← hz, fitsE, if_pos ⟨s, hs, k2⟩]
      rw [k2] at c2
      clear hv hw hp hz hs ha hsi k2 HDP
      go_enter Try.func101, Try.ntmps101
      go_wp2_with fail
      refine hfi.mono ?_
      rintro e w1 ⟨rfl, hb1⟩
      obtain ⟨hcc, -⟩ := bcell hb1
      have HB1 : Hid (Below w.heap.size w w1) := hb1
      clear hb1 hfi
      go_wp2
      go_ret
      exact ⟨congrArg _ (v_int hz'.symm), HB1.out⟩
    · have hz' : (if 64 < (ups D p).length + ht then (32 : Int) else 0) = z := by
        have hn : ¬ (∃ s, sl D p = some s ∧ s.kind = 2) := by
          rintro ⟨s', h, h2⟩
          rw [hs] at h
          cases h
          exact k2 h2
        rw [← hz, fitsE, if_neg hn]
      have hkb : (s.kind == 2) = false := beq_eq_false_iff_ne.2 k2
      generalize (ups D p).length = u at *
      clear hv hw hp hz hs ha hsi k2
      by_cases hc : 64 < u + ht
      · rw [if_pos hc] at hz'
        have HZ : Hid (32 = z) := hz'
        clear hz'
        go_enter Try.func101, Try.ntmps101
        go_wp2_with fail
        refine hfi.mono ?_
        rintro e w1 ⟨rfl, hb1⟩
        obtain ⟨hcc, -⟩ := bcell hb1
        have HB1 : Hid (Below w.heap.size w w1) := hb1
        clear hb1 hfi
        go_wp2_with fail
        refine (HDP.out w1 HB1.out).mono ?_
        rintro e w2 ⟨rfl, hb2⟩
        have HB2 : Hid (Below w.heap.size w w2) := HB1.out.trans (hb2.mono HB1.out.size)
        clear hb2
        go_wp2
        go_ret
        exact ⟨congrArg _ (v_int HZ.out), HB2.out⟩
      · rw [if_neg hc] at hz'
        have HZ : Hid (0 = z) := hz'
        clear hz'
        go_enter Try.func101, Try.ntmps101
        go_wp2_with fail
        refine hfi.mono ?_
        rintro e w1 ⟨rfl, hb1⟩
        obtain ⟨hcc, -⟩ := bcell hb1
        have HB1 : Hid (Below w.heap.size w w1) := hb1
        clear hb1 hfi
        go_wp2_with fail
        refine (HDP.out w1 HB1.out).mono ?_
        rintro e w2 ⟨rfl, hb2⟩
        have HB2 : Hid (Below w.heap.size w w2) := HB1.out.trans (hb2.mono HB1.out.size)
        clear hb2
        go_wp2
        go_ret
        exact ⟨congrArg _ (v_int HZ.out), HB2.out⟩

set_option maxRecDepth 100000 in
set_option maxHeartbeats 400000 in
theorem canGive_any (w : World) (g : Nat) (lv : Bool) (k : Int) (nm : ByteArray) (av : Value) (tx : ByteArray) (p : Nat) (kv : Value) :
    Calls Try.prog 118 #[.agg #[.int .u32 (g : Int), .bool lv, .int .i64 k, .string nm, av, .string tx, .int .u64 (p : Int), kv]] w fun e w' => e = .returned (.bool (!lv && decide (g < 4294967295))) ∧ Below w.heap.size w w' := by
  cases lv
  · go_enter Try.func118, Try.ntmps118
    go_wp2
    go_ret
    refine ⟨congrArg _ (v_bool (Bool.eq_iff_iff.2 ?_)), below_new' w _⟩
    simp
    try omega
  · go_enter Try.func118, Try.ntmps118
    go_wp2
    go_ret
    exact ⟨rfl, below_new' w _⟩

end Go.Proofs.Ytjkgjckkglfokaa.Gr

/- Places, by the document; how many indexes are taken. -/
namespace Go.Proofs.Ytjkgjckkglfokaa.Gr
open Go.RowKit
set_option linter.unusedVariables false
set_option linter.unusedSimpArgs false
attribute [local go_sem] Bel.cell Bel.fz

/-- How many slots a test holds of. -/
def cnt (f : Sl → Bool) (S : List Sl) : Nat := (S.filter f).length
def takenB (s : Sl) : Bool := s.live || decide (s.gen = 4294967295)

end Go.Proofs.Ytjkgjckkglfokaa.Gr
