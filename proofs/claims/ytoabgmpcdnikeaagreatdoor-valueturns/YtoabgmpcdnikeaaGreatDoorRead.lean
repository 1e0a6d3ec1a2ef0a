/- What the laws take, read as data: values; and what the listed variables are. -/
import Derived.Test.YtoabgmpcdnikeaaGreatDoorVs
import Derived.Test.YtoabgmpcdnikeaaGreatDoorRows
import Derived.ProofKit
import Derived.OpenShut
import Derived.ChangeOld
import Derived.SizedLaws
import Derived.Deep.Slices
import Derived.Lib.LaidTab
import Derived.Stop.LaidErr
import Derived.LaidMore
import Derived.Lay
namespace Go.Proofs.YtoabgmpcdnikeaaGreatDoor
open Go.RowKit Go.Deep
set_option linter.unusedVariables false
set_option maxRecDepth 100000

theorem cells2 : Tryz.prog.cellsOf 2 = 1 := by kernel_rfl
theorem cells3 : Tryz.prog.cellsOf 3 = 1 := by kernel_rfl
theorem cells4 : Tryz.prog.cellsOf 4 = 1 := by kernel_rfl
theorem cells9 : Tryz.prog.cellsOf 9 = 1 := by kernel_rfl
theorem cells22 : Tryz.prog.cellsOf 22 = 1 := by kernel_rfl
theorem cells24 : Tryz.prog.cellsOf 24 = 6 := by kernel_rfl
theorem bytes9 : Tryz.prog.bytesOf 9 = 16 := by kernel_rfl

theorem wf_i64 {n : Int} (h : (Lit.int .i64 n).wf = true) : -9223372036854775808 ≤ n ∧ n < 9223372036854775808 := by
  simp [Lit.wf, IntKind.min, IntKind.max, IntKind.signed, IntKind.bits] at h
  omega

theorem addr_plus (b o j : Nat) : (⟨b, o, none⟩ : Addr).add j = ⟨b, o + j, none⟩ := by unfold Addr.add; split <;> simp_all
/-- No part of it takes more than a machine's memory. -/
def Wt {H : Type} (t : TypeId) (d : DataW H) : Prop := ∀ y ∈ d.weights Tryz.prog t, y ≤ reachBytes

theorem wt_slice {H : Type} {t e : TypeId} {es sp : List (DataW H)} (hu : Tryz.prog.underlying t = some (.slice e)) (h : Wt t (.slice es sp)) : (es.length + sp.length) * Tryz.prog.bytesOf e ≤ reachBytes ∧ ∀ d ∈ es, Wt e d := by
  unfold Wt at h
  simp only [DataW.weights, hu] at h
  refine ⟨h _ (by simp), fun d hd y hy => h y ?_⟩
  refine List.mem_cons_of_mem _ (List.mem_append_left _ ?_)
  clear h
  induction es with
  | nil => simp at hd
  | cons a r ih =>
    simp only [DataW.weightsAll, List.mem_append]
    rcases List.mem_cons.1 hd with rfl | hd
    · exact .inl hy
    · exact .inr (ih hd)

theorem wt_each {H : Type} : ∀ {ts : List TypeId} {ds : List (DataW H)}, (∀ y ∈ DataW.weightsEach Tryz.prog ts ds, y ≤ reachBytes) → ∀ {j : Nat} {t : TypeId} {d : DataW H}, ts[j]? = some t → ds[j]? = some d → Wt t d
  | [], ds, h, j, t, d, ht, hd => by simp at ht
  | t0 :: ts, [], h, j, t, d, ht, hd => by simp at hd
  | t0 :: ts, d0 :: ds, h, j, t, d, ht, hd => by
    simp only [DataW.weightsEach, List.mem_append] at h
    cases j with
    | zero =>
      simp at ht hd
      subst ht hd
      exact fun y hy => h y (.inl hy)
    | succ j => exact wt_each (fun y hy => h y (.inr hy)) (j := j) (by simpa using ht) (by simpa using hd)

/-- What is there at each place, as a list. -/
theorem list_of {α : Type} : ∀ (len : Nat) (p : Nat → α → Prop), (∀ i, i < len → ∃ k, p i k) → ∃ L : List α, L.length = len ∧ ∀ i k, L[i]? = some k → p i k
  | 0, p, h => ⟨[], rfl, fun i k hk => by simp at hk⟩
  | len + 1, p, h => by
    obtain ⟨L, hl, hL⟩ := list_of len p (fun i hi => h i (by omega))
    obtain ⟨x, hx⟩ := h len (by omega)
    refine ⟨L ++ [x], by simp [hl], fun i k hk => ?_⟩
    rcases Nat.lt_or_ge i len with hi | hi
    · rw [List.getElem?_append_left (by omega)] at hk
      exact hL i k hk
    · have : i = len := by
        have := (List.getElem?_eq_some_iff.1 hk).1
        simp at this
        omega
      subst this
      rw [List.getElem?_append_right (by omega), hl] at hk
      simp at hk
      subst hk
      exact hx

theorem spot_of {W : World} {a : Addr} {v : Value} (h : W.cell? a = some v) : a = ⟨a.block, a.off, none⟩ := by
  have := World.cell?_spot h
  cases a
  simp_all

/-- A slice of structs, read: each element's cells. -/
theorem slice_cells {H : Type} {enc : TypeId × Value → H} {W : World} {held : Bool} {fuel : Nat} {t e : TypeId} {sz : Nat} {a : Option Addr} {len cap : Nat} {x : DataW H × List MemPlace} (hu : Tryz.prog.underlying t = some (.slice e)) (hc : Tryz.prog.cellsOf e = sz) (hsz : 0 < sz)
    (h : DataW.trod enc Tryz.prog W 0 (fun _ => true) held fuel t [.slice a len cap] = some x) (hw : Wt t x.1) : len ≤ cap ∧ len * Tryz.prog.bytesOf e ≤ reachBytes ∧ ∃ n, n + 1 ≤ fuel ∧ ∀ i, i < len → ∃ (b o : Nat) (cs : List Value) (y : DataW H × List MemPlace), a = some ⟨b, o, none⟩ ∧ b < W.heap.size ∧ cs.length = sz ∧ (∀ j, j < sz → W.cell? ⟨b, o + i * sz + j, none⟩ = cs[j]?) ∧ DataW.trod enc Tryz.prog W 0 (fun _ => true) held n e cs = some y ∧ Wt e y.1 := by
  rcases DataW.trod_slice hu h with ⟨hcs, hx⟩ | ⟨ad, l, c, elems, rest, n, hf, hcs, hx, hb, hl, hm, hlen, hel, hsp, _⟩
  · simp at hcs
    obtain ⟨rfl, rfl, rfl⟩ := hcs
    refine ⟨Nat.le_refl _, by simp, 0, ?_, fun i hi => by omega⟩
    cases fuel with
    | zero => simp [DataW.trod] at h
    | succ n => omega
  · simp at hcs
    obtain ⟨rfl, rfl, rfl⟩ := hcs
    subst hx
    obtain ⟨w1, w2⟩ := wt_slice hu hw
    simp only [List.length_map] at w1
    refine ⟨hl, Nat.le_trans (Nat.mul_le_mul_right _ (by omega)) w1, n, by omega, fun i hi => ?_⟩
    have h1 := hel i hi
    rw [List.getElem?_eq_getElem (by omega), hc] at h1
    obtain ⟨cs, h2, h3⟩ := Option.bind_eq_some_iff.1 h1
    obtain ⟨_, h4, h5⟩ := World.cells?_some h2
    have h6 := h5 0 hsz
    rw [List.getElem?_eq_getElem (by omega)] at h6
    have hspot : ad.spot = none := by
      have g1 := hel 0 (by omega)
      rw [List.getElem?_eq_getElem (by omega), hc] at g1
      obtain ⟨cs0, g2, _⟩ := Option.bind_eq_some_iff.1 g1
      obtain ⟨_, g4, g5⟩ := World.cells?_some g2
      have g6 := g5 0 hsz
      rw [List.getElem?_eq_getElem (by omega)] at g6
      simpa [Addr.add] using World.cell?_spot g6
    obtain ⟨b, o, spot⟩ := ad
    simp only at hspot
    subst hspot
    refine ⟨b, o, cs, elems[i], rfl, ?_, h4, fun j hj => ?_, h3, w2 _ (List.mem_map_of_mem (List.getElem_mem _))⟩
    · rw [addr_plus, addr_plus] at h6
      exact World.block_lt_of_cell? W _ h6
    · have := h5 j hj
      rw [addr_plus, addr_plus] at this
      exact this



theorem wt_str {H : Type} {s : ByteArray} (h : Wt (H := H) 9 (.lit (.string s.data.toList))) : s.size ≤ 281474976710656 := by
  have := h s.data.toList.length (by simp [DataW.weights])
  have e : s.size = s.data.toList.length := Lib.size_eq s
  unfold reachBytes at this
  omega
/-- A slice of texts, read. -/
theorem strs_of {H : Type} {enc : TypeId × Value → H} {W : World} {held : Bool} {fuel : Nat} {a : Option Addr} {len cap : Nat} {x : DataW H × List MemPlace} (h : DataW.trod enc Tryz.prog W 0 (fun _ => true) held fuel 22 [.slice a len cap] = some x) (hw : Wt 22 x.1) :
    ∃ L : List ByteArray, L.length = len ∧ len * 16 ≤ reachBytes ∧ SsAt W a L ∧ ∀ s ∈ L, s.size ≤ 281474976710656 := by
  obtain ⟨k1, k2, n, hn, hk⟩ := slice_cells Tryz.underlying22 cells9 (by decide) h hw
  rw [bytes9] at k2
  obtain ⟨L, rfl, hL⟩ := list_of len (fun i (s : ByteArray) => s.size ≤ 281474976710656 ∧ ∃ b o, a = some ⟨b, o, none⟩ ∧ b < W.heap.size ∧ W.cell? ⟨b, o + i, none⟩ = some (.string s)) (fun i hi => by
    obtain ⟨b, o, cs, y, e1, e2, e3, e4, e5, e6⟩ := hk i hi
    obtain ⟨c0, rfl⟩ : ∃ c0, cs = [c0] := by
      match cs, e3 with
      | [c0], _ => exact ⟨c0, rfl⟩
    obtain ⟨s, q, qx, _⟩ := DataW.trod_string Tryz.underlying9 e5
    simp at q
    subst q
    subst qx
    have := e4 0 (by omega)
    exact ⟨s, wt_str e6, b, o, e1, e2, by simpa using this⟩)
  refine ⟨L, rfl, k2, fun i s hs => (hL i s hs).2, fun s hs => ?_⟩
  obtain ⟨i, hi⟩ := List.getElem?_of_mem hs
  exact (hL i s hi).1
/-- A value, read. -/
theorem val_of {H : Type} {enc : TypeId × Value → H} {W : World} {held : Bool} {fuel : Nat} {cs : List Value} {x : DataW H × List MemPlace} (h : DataW.trod enc Tryz.prog W 0 (fun _ => true) held fuel 24 cs = some x) (hw : Wt 24 x.1) :
    ∃ (k : Int) (b : Bool) (n : Int) (no : Bool) (t : ByteArray) (a : Option Addr) (L : List ByteArray) (c : Nat), cs = [.int .i64 k, .bool b, .int .i64 n, .bool no, .string t, .slice a L.length c] ∧ VOk W ⟨k, b, n, no, t, L⟩ a ∧ L.length * 16 ≤ reachBytes := by
  obtain ⟨xs, n', hf, rfl, hl, g4, g5⟩ := DataW.trod_struct Tryz.underlying24 h
  have x6 : xs.length = 6 := g4
  rw [cells24] at hl
  have f0 : DataW.trod enc Tryz.prog W 0 (fun _ => true) held n' 3 ((cs.drop 0).take (Tryz.prog.cellsOf 3)) = xs[0]? := g5 0 _ rfl
  have f1 : DataW.trod enc Tryz.prog W 0 (fun _ => true) held n' 4 ((cs.drop 1).take (Tryz.prog.cellsOf 4)) = xs[1]? := g5 1 _ rfl
  have f2 : DataW.trod enc Tryz.prog W 0 (fun _ => true) held n' 2 ((cs.drop 2).take (Tryz.prog.cellsOf 2)) = xs[2]? := g5 2 _ rfl
  have f3 : DataW.trod enc Tryz.prog W 0 (fun _ => true) held n' 4 ((cs.drop 3).take (Tryz.prog.cellsOf 4)) = xs[3]? := g5 3 _ rfl
  have f4 : DataW.trod enc Tryz.prog W 0 (fun _ => true) held n' 9 ((cs.drop 4).take (Tryz.prog.cellsOf 9)) = xs[4]? := g5 4 _ rfl
  have f5 : DataW.trod enc Tryz.prog W 0 (fun _ => true) held n' 22 ((cs.drop 5).take (Tryz.prog.cellsOf 22)) = xs[5]? := g5 5 _ rfl
  have hww : ∀ y ∈ DataW.weightsEach Tryz.prog [3, 4, 2, 4, 9, 22] (xs.map (·.1)), y ≤ reachBytes := by
    intro y hy
    refine hw y ?_
    simp only [DataW.weights, Tryz.underlying24]
    exact hy
  have w4 : Wt 9 (xs[4]'(by omega)).1 := wt_each hww (j := 4) rfl (by rw [List.getElem?_map, List.getElem?_eq_getElem (by omega)]; rfl)
  have w5 : Wt 22 (xs[5]'(by omega)).1 := wt_each hww (j := 5) rfl (by rw [List.getElem?_map, List.getElem?_eq_getElem (by omega)]; rfl)
  rw [List.getElem?_eq_getElem (by omega)] at f0 f1 f2 f3 f4 f5
  rw [cells3] at f0
  rw [cells4] at f1 f3
  rw [cells2] at f2
  rw [cells9] at f4
  rw [cells22] at f5
  obtain ⟨c0, c1, c2, c3, c4, c5, rfl⟩ : ∃ c0 c1 c2 c3 c4 c5, cs = [c0, c1, c2, c3, c4, c5] := by
    match cs, hl with
    | [c0, c1, c2, c3, c4, c5], _ => exact ⟨c0, c1, c2, c3, c4, c5, rfl⟩
  simp at f0 f1 f2 f3 f4 f5
  obtain ⟨k, q0, _, _⟩ := DataW.trod_int Tryz.underlying3 f0
  obtain ⟨b, q1, _⟩ := DataW.trod_bool Tryz.underlying4 f1
  obtain ⟨n, q2, _, hwn⟩ := DataW.trod_int Tryz.underlying2 f2
  obtain ⟨no, q3, _⟩ := DataW.trod_bool Tryz.underlying4 f3
  obtain ⟨t, q4, qt, _⟩ := DataW.trod_string Tryz.underlying9 f4
  simp at q0 q1 q2 q3 q4
  subst q0 q1 q2 q3 q4
  rw [qt] at w4
  obtain ⟨a, m, c, rfl⟩ : ∃ a m c, c5 = .slice a m c := by
    rcases DataW.trod_slice Tryz.underlying22 f5 with ⟨e, _⟩ | ⟨ad, l, c, _, _, _, _, e, _⟩
    · simp at e; exact ⟨_, _, _, e⟩
    · simp at e; exact ⟨_, _, _, e⟩
  obtain ⟨L, rfl, hz, hL, hs⟩ := strs_of f5 w5
  have hn := wf_i64 hwn
  refine ⟨k, b, n, no, t, a, L, c, rfl, ⟨hL, ?_, hn.1, by have := hn.2; show n ≤ 9223372036854775807; omega, wt_str w4, hs⟩, hz⟩
  show L.length ≤ 4611686018427387904
  unfold reachBytes at hz
  omega

/-- The listed variables. -/
abbrev theLaid : List (String × DataW Unit) := [("math/bits.deBruijn32tab", Rows.laid_math_bits_deBruijn32tab), ("math/bits.deBruijn64tab", Rows.laid_math_bits_deBruijn64tab), ("internal/strconv.uint64pow10", Rows.laid_internal_strconv_uint64pow10), ("unicode/utf8.acceptRanges", Rows.laid_unicode_utf8_acceptRanges), ("strconv.ErrRange", Rows.laid_strconv_ErrRange), ("strconv.ErrSyntax", Rows.laid_strconv_ErrSyntax), ("unicode/utf8.first", Rows.laid_unicode_utf8_first)]
theorem iface_of {H : Type} {enc : TypeId × Value → H} {W : World} {base : Nat} {sp : Nat → Bool} {held : Bool} {fuel : Nat} {cs : List Value} {x : DataW H × List MemPlace} (h : DataW.trod enc Tryz.prog W base sp held fuel 146 cs = some x) : ∃ ev, cs = [ev] ∧ (ev = .nilIface ∨ ∃ te pe, ev = .iface te pe) := by
  cases fuel with
  | zero => simp [DataW.trod] at h
  | succ n =>
    simp only [DataW.trod, Tryz.underlying146] at h
    split at h <;> first | (cases h; done) | skip
    all_goals first | (rename_i e; cases e; done) | skip
    · exact ⟨_, rfl, .inl rfl⟩
    · exact ⟨_, rfl, .inr ⟨_, _, rfl⟩⟩
theorem err_of {W : World} {n : String} {d : DataW Unit} {r : List (String × DataW Unit)} {g : Nat} (h : laidMet Tryz.prog ((n, d) :: r) W) (hg : Tryz.prog.globalNamed n = some g) (ht : (Tryz.prog.globals[g]?).map (·.type) = some 146) : ErrAt W g := by
  obtain ⟨ps, ⟨g0, t0, cs0, f0, p0, q0, hg0, ht0, hv0, hd0, _, e0⟩, _, hrows⟩ := h
  obtain rfl := Option.some.inj (hg.symm.trans hg0)
  obtain rfl := Option.some.inj (ht.symm.trans ht0)
  obtain ⟨ev, h1, h2⟩ := iface_of hd0
  refine ⟨ev, ?_, h2⟩
  have := World.var?_cell hg0 hv0 0
  rw [this]
  obtain ⟨l⟩ := cs0
  simp at h1
  subst h1
  rfl
theorem gl_of {W : World} (h : laidMetH Tryz.prog theLaid W) : Gl W := by
  rw [MakeChecks.laidMetH_plain _ _ _ (by kernel_rfl)] at h
  have h2 := h.tail.tail
  have h4 := h2.tail.tail
  exact ⟨Lib.tabIs_of_head (g := 0) (t := 205) (e := 130) (n := 20) (by kernel_rfl) (by kernel_rfl) Tryz.underlying205 Tryz.underlying130 (by kernel_rfl) (by kernel_rfl) h2, err_of h4.tail (by kernel_rfl) (by kernel_rfl), err_of h4 (by kernel_rfl) (by kernel_rfl)⟩

end Go.Proofs.YtoabgmpcdnikeaaGreatDoor
