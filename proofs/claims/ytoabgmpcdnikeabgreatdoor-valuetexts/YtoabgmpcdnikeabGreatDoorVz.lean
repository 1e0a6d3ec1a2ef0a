/- Parts of texts: the law's function call, and what it answers. -/
import Derived.Test.YtoabgmpcdnikeabGreatDoorVv
import Derived.Test.YtoabgmpcdnikeabGreatDoorVt
namespace Go.Proofs.YtoabgmpcdnikeabGreatDoor
open Go.RowKit
set_option linter.unusedVariables false

set_option maxRecDepth 100000 in
theorem vcall_any (w : World) (name : ByteArray) {aa : Option Addr} {ac m : Nat} {k n : Int} {b no : Bool} {t : ByteArray}
    (hcl : ∀ u, Below w.heap.size w u → Calls Tryz.prog 11 #[.string name, .agg #[.int .i64 0, .int .i64 0, .string ⟨#[]⟩, .string ⟨#[]⟩, .slice none 0 0], .slice aa m ac] u fun e w' => e = .returned (.tuple #[mkV k b n no t, .int .i64 0]) ∧ Below u.heap.size u w') :
    Calls Tryz.prog 12 #[.string name, .slice aa m ac] w fun e w' => e = .returned (mkV k b n no t) ∧ Below w.heap.size w w' := by
  obtain ⟨W, hW⟩ : ∃ W, (w.alloc (.cells #[.int .i64 0, .bool false, .int .i64 0, .bool false, .string ⟨#[]⟩, .slice none 0 0] 24)) = W := ⟨_, rfl⟩
  have HW : Hid ((w.alloc (.cells #[.int .i64 0, .bool false, .int .i64 0, .bool false, .string ⟨#[]⟩, .slice none 0 0] 24)) = W ∧ Below w.heap.size w W ∧ IsCells W w.heap.size #[.int .i64 0, .bool false, .int .i64 0, .bool false, .string ⟨#[]⟩, .slice none 0 0]) := ⟨hW, by rw [← hW]; exact below1 _ _, by rw [← hW]; exact isCells_new _ _ _⟩
  have hc := hcl W HW.out.2.1
  clear hW hcl
  go_enter Tryz.func12, Tryz.ntmps12
  go_wp2_with fail
  rw [HW.out.1]
  with_reducible refine hc.mono ?_
  rintro e w1 ⟨rfl, hb⟩
  have HB : Hid (Below w.heap.size w w1 ∧ IsCells w1 w.heap.size #[.int .i64 0, .bool false, .int .i64 0, .bool false, .string ⟨#[]⟩, .slice none 0 0]) := ⟨HW.out.2.1.trans (hb.mono HW.out.2.1.size), HW.out.2.2.of_block (hb.block _ HW.out.2.2.lt)⟩
  clear hb hc
  obtain ⟨z0, z1, z2, z3, z4, z5⟩ := six_cells HB.out.2
  obtain ⟨f0, f1, f2, f3, f4, f5⟩ := six_frozen HB.out.2
  have hl := HB.out.2.lt
  have hs := HB.out.1.size
  go_wp2
  have hq := (set6 HB.out.2 (.int .i64 k) (.bool b) (.int .i64 n) (.bool no) (.string t) (.slice none 0 0)).alloc (.cells #[.int .i64 k, .bool b, .int .i64 n, .bool no, .string t, .slice none 0 0] 24)
  obtain ⟨y0, y1, y2, y3, y4, y5⟩ := six_cells hq
  exact bodyPost_ret (v := mkV k b n no t) (by simp [results, Tryz.results12, go_sem, y0, y1, y2, y3, y4, y5]) rfl ⟨rfl, (below6 HB.out.1 (Nat.le_refl _) _ _ _ _ _ _).alloc (by simp [World.setCell]; exact hs) _⟩


theorem aok_one {X : World} {B : Nat} {x : ByteArray} (h : IsCells X B #[.int .i64 3, .bool false, .int .i64 0, .bool false, .string x, .slice none 0 0]) (hx : x.size ≤ 281474976710656) : AOk X (some ⟨B, 0, none⟩) 0 ⟨3, false, 0, false, x, []⟩ none 0 B 0 :=
  ⟨rfl, h.lt, h.cell 0, h.cell 1, h.cell 2, h.cell 3, h.cell 4, h.cell 5, vok_made X 3 0 false false x (by decide) (by decide) hx⟩
theorem aok_two {X : World} {B : Nat} {x y : ByteArray} (h : IsCells X B #[.int .i64 3, .bool false, .int .i64 0, .bool false, .string x, .slice none 0 0, .int .i64 3, .bool false, .int .i64 0, .bool false, .string y, .slice none 0 0]) (hx : x.size ≤ 281474976710656) (hy : y.size ≤ 281474976710656) : AOk X (some ⟨B, 0, none⟩) 0 ⟨3, false, 0, false, x, []⟩ none 0 B 0 ∧ AOk X (some ⟨B, 0, none⟩) 1 ⟨3, false, 0, false, y, []⟩ none 0 B 0 :=
  ⟨⟨rfl, h.lt, h.cell 0, h.cell 1, h.cell 2, h.cell 3, h.cell 4, h.cell 5, vok_made X 3 0 false false x (by decide) (by decide) hx⟩,
   ⟨rfl, h.lt, h.cell 6, h.cell 7, h.cell 8, h.cell 9, h.cell 10, h.cell 11, vok_made X 3 0 false false y (by decide) (by decide) hy⟩⟩
/-- length, of a text. -/
theorem vlen_any (X : World) (G : Gl X) {B : Nat} {x : ByteArray} (h : IsCells X B #[.int .i64 3, .bool false, .int .i64 0, .bool false, .string x, .slice none 0 0]) (hx : x.size ≤ 281474976710656) (hc : (tans (Tx x)).2 = 0) :
    Calls Tryz.prog 12 #[.string ⟨#[108, 101, 110, 103, 116, 104]⟩, .slice (some ⟨B, 0, none⟩) 1 1] X fun e w' => e = .returned (mkV 2 false (lans (Tx x)).1 false ⟨#[]⟩) ∧ Below X.heap.size X w' := by
  refine vcall_any X _ (fun u hu => ?_)
  have h0 := (aok_one h hx).bel hu
  have hAs : AsAt u (some ⟨B, 0, none⟩) [⟨3, false, 0, false, x, []⟩] := fun i v hv => by
    match i, hv with
    | 0, hv =>
      simp only [List.getElem?_cons_zero, Option.some.injEq] at hv
      subst hv
      exact ⟨_, _, _, _, h0⟩
    | j + 1, hv => simp at hv
  refine call_ok (A := [⟨3, false, 0, false, x, []⟩]) u _ hAs (by simp) 1 rfl (fun v => args1 v _ (by simp [Fn1])) (by simp [Vl.can, canV, hc]) (fun v hv => ?_)
  exact called_length v ((G.bel hu).bel hv) (ps := 0) (la := 0) (nm := ⟨#[]⟩) (tx := ⟨#[]⟩) (ta := none) (tl := 0) (tc := 0) (ac := 1) (h0.bel hv)
/-- contains and starts, of two texts. -/
theorem vcon_any (X : World) (G : Gl X) {B : Nat} {x y : ByteArray} (h : IsCells X B #[.int .i64 3, .bool false, .int .i64 0, .bool false, .string x, .slice none 0 0, .int .i64 3, .bool false, .int .i64 0, .bool false, .string y, .slice none 0 0]) (hx : x.size ≤ 16384) (hy : y.size ≤ 16384) (hc : (tans (Tx x)).2 = 0) (hd : (tans (Tx y)).2 = 0) (hm : ∃ m, X.cell? ⟨0, 0, none⟩ = some (.int .i64 m)) :
    Calls Tryz.prog 12 #[.string ⟨#[99, 111, 110, 116, 97, 105, 110, 115]⟩, .slice (some ⟨B, 0, none⟩) 2 2] X fun e w' => e = .returned (mkV 1 (Lib.contains (Tx x) (Tx y)) 0 false ⟨#[]⟩) ∧ Below X.heap.size X w' := by
  refine vcall_any X _ (fun u hu => ?_)
  obtain ⟨h0, h1⟩ := aok_two h (by omega) (by omega)
  have hAs : AsAt u (some ⟨B, 0, none⟩) [⟨3, false, 0, false, x, []⟩, ⟨3, false, 0, false, y, []⟩] := fun i v hv => by
    match i, hv with
    | 0, hv =>
      simp only [List.getElem?_cons_zero, Option.some.injEq] at hv
      subst hv
      exact ⟨_, _, _, _, h0.bel hu⟩
    | 1, hv =>
      simp only [List.getElem?_cons_succ, List.getElem?_cons_zero, Option.some.injEq] at hv
      subst hv
      exact ⟨_, _, _, _, h1.bel hu⟩
    | j + 2, hv => simp at hv
  refine call_ok (A := [⟨3, false, 0, false, x, []⟩, ⟨3, false, 0, false, y, []⟩]) u _ hAs (by simp) 2 rfl (fun v => args2 v _ (by simp [Fn2])) (by simp [Vl.can, canV, hc, hd]) (fun v hv => ?_)
  refine called_contains v ((G.bel hu).bel hv) (ps := 0) (la := 0) (nm := ⟨#[]⟩) (tx := ⟨#[]⟩) (ta := none) (tl := 0) (tc := 0) (ac := 2) ((h0.bel hu).bel hv) ((h1.bel hu).bel hv) (by show x.size < 4294967281; omega) (fun z hz => ?_)
  obtain ⟨m, hm⟩ := hm
  have q1 : Below X.heap.size X z := (hu.trans (hv.mono hu.size)).trans (hz.mono (Nat.le_trans hu.size hv.size))
  exact ⟨m, (q1.cell (p := ⟨0, 0, none⟩) (cell_lt hm)).trans hm⟩
theorem vsta_any (X : World) (G : Gl X) {B : Nat} {x y : ByteArray} (h : IsCells X B #[.int .i64 3, .bool false, .int .i64 0, .bool false, .string x, .slice none 0 0, .int .i64 3, .bool false, .int .i64 0, .bool false, .string y, .slice none 0 0]) (hx : x.size ≤ 16384) (hy : y.size ≤ 16384) (hc : (tans (Tx x)).2 = 0) (hd : (tans (Tx y)).2 = 0) :
    Calls Tryz.prog 12 #[.string ⟨#[115, 116, 97, 114, 116, 115]⟩, .slice (some ⟨B, 0, none⟩) 2 2] X fun e w' => e = .returned (mkV 1 (Lib.hasPrefix (Tx x) (Tx y)) 0 false ⟨#[]⟩) ∧ Below X.heap.size X w' := by
  refine vcall_any X _ (fun u hu => ?_)
  obtain ⟨h0, h1⟩ := aok_two h (by omega) (by omega)
  have hAs : AsAt u (some ⟨B, 0, none⟩) [⟨3, false, 0, false, x, []⟩, ⟨3, false, 0, false, y, []⟩] := fun i v hv => by
    match i, hv with
    | 0, hv =>
      simp only [List.getElem?_cons_zero, Option.some.injEq] at hv
      subst hv
      exact ⟨_, _, _, _, h0.bel hu⟩
    | 1, hv =>
      simp only [List.getElem?_cons_succ, List.getElem?_cons_zero, Option.some.injEq] at hv
      subst hv
      exact ⟨_, _, _, _, h1.bel hu⟩
    | j + 2, hv => simp at hv
  refine call_ok (A := [⟨3, false, 0, false, x, []⟩, ⟨3, false, 0, false, y, []⟩]) u _ hAs (by simp) 2 rfl (fun v => args2 v _ (by simp [Fn2])) (by simp [Vl.can, canV, hc, hd]) (fun v hv => ?_)
  exact called_starts v ((G.bel hu).bel hv) (ps := 0) (la := 0) (nm := ⟨#[]⟩) (tx := ⟨#[]⟩) (ta := none) (tl := 0) (tc := 0) (ac := 2) ((h0.bel hu).bel hv) ((h1.bel hu).bel hv)

/-- In plain. -/
theorem can_size {l : Bs} (h : (tans l).2 = 0) : l.length ≤ 16384 := by
  unfold tans at h
  split at h
  · cases h
  · omega
theorem can_scan {l : Bs} (h : (tans l).2 = 0) : l = bytes (scan l).1 ∧ (∀ r ∈ (scan l).1, Ch r) := by
  have hs := can_size h
  unfold tans bans at h
  rw [if_neg (by omega)] at h
  obtain ⟨h1, h2, _⟩ := scan_spec l
  split at h
  · rename_i h3
    rw [h3, List.append_nil] at h1
    exact ⟨h1, h2⟩
  · cases h
theorem lans_app {a b : Bs} (ha : (tans a).2 = 0) (hb : (tans b).2 = 0) (hc : (tans (a ++ b)).2 = 0) : (lans (a ++ b)).1 = (lans a).1 + (lans b).1 := by
  obtain ⟨a1, a2⟩ := can_scan ha
  obtain ⟨b1, b2⟩ := can_scan hb
  have h : scan (a ++ b) = ((scan a).1 ++ (scan b).1, []) := by
    have e : a ++ b = bytes ((scan a).1 ++ (scan b).1) ++ [] := by rw [List.append_nil, bytes_append, ← a1, ← b1]
    have := scanF_of [] first_nil ((scan a).1 ++ (scan b).1) (a ++ b).length (by rw [← e]; exact Nat.le_refl _) (fun r hr => (List.mem_append.1 hr).elim (a2 r) (b2 r))
    rw [← e] at this
    exact this
  unfold lans
  rw [if_pos ha, if_pos hb, if_pos hc, h]
  simp
theorem contains_app (a b : Bs) : Lib.contains (a ++ b) b = true := by
  unfold Lib.contains
  rcases Lib.index_spec (a ++ b) b with ⟨h1, h2⟩ | ⟨i, h1, _⟩
  · exfalso
    have := h2 a.length (by simp)
    unfold Lib.occAt at this
    simp at this
    rw [List.isPrefixOf_iff_prefix.2 (List.prefix_refl b)] at this
    cases this
  · simp [h1]
theorem contains_nil (a : Bs) : Lib.contains a [] = true := by
  unfold Lib.contains
  rw [Lib.index_empty]
  rfl
theorem starts_app (a b : Bs) : Lib.hasPrefix (a ++ b) a = true := by
  unfold Lib.hasPrefix
  simp
theorem lans_small {l : Bs} (h : (tans l).2 = 0) : 0 ≤ (lans l).1 ∧ (lans l).1 ≤ 16384 := by
  obtain ⟨a1, _⟩ := can_scan h
  have h1 := can_size h
  have h2 := bytes_length_ge (scan l).1
  rw [← a1] at h2
  unfold lans
  rw [if_pos h]
  constructor
  · simp
  · simp only
    omega

end Go.Proofs.YtoabgmpcdnikeabGreatDoor
