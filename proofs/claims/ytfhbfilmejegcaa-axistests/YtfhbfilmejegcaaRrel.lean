/- Relations of two spans: the document's answer. -/
import Derived.Test.YtfhbfilmejegcaaRel
import Derived.Deep.DrawnRows
namespace Go.Proofs.Ytfhbfilmejegcaa
open Go.RowKit
set_option linter.unusedVariables false
attribute [local go_sem] Bel.cell Bel.fz
attribute [local go_sem ↓] Go.wp_at_zero Go.wp_at_succ

/-- The first that is true. -/
def ft : List Bool → Int → Int × Int
  | [], _ => (0, 111)
  | z :: r, i => if z = true then (i + 1, 0) else ft r (i + 1)
theorem ft_at {Z : List Bool} {i : Nat} {z : Bool} (h : Z[i]? = some z) : ft (Z.drop i) i = if z = true then ((i : Int) + 1, 0) else ft (Z.drop (i + 1)) ((i + 1 : Nat) : Int) := by
  have hlt := (List.getElem?_eq_some_iff.1 h).1
  have e : Z.drop i = z :: Z.drop (i + 1) := by
    rw [List.drop_eq_getElem_cons hlt, (List.getElem?_eq_some_iff.1 h).2]
  rw [e, ft]
  rfl
theorem cells_bool (w : World) (Z : List Bool) (t : TypeId) (i : Nat) (z : Bool) (h : Z[i]? = some z) : (w.alloc (.cells (Z.map Value.bool).toArray t)).cell? ⟨w.heap.size, i, none⟩ = some (.bool z) := by
  rw [(isCells_new w _ t).cell]
  simp [h]

set_option maxRecDepth 100000 in
set_option maxHeartbeats 1000000 in
theorem rrel_yes (w : World) (a b : Sp) (ha : Lvl a) (hb : Lvl b) (hva : val a = true) (hvb : val b = true) : Calls Try.prog 22 #[.agg (sv a), .agg (sv b)] w fun e w' => e = .returned (.tuple #[.int .i64 (rel a b).1, .int .i64 (rel a b).2]) ∧ Below w.heap.size w w' := by
  have h1 := fun W => rval_any W a
  have h2 := fun W => rval_any W b
  rw [hva] at h1
  rw [hvb] at h2
  have c1 := fun W => rself_any W a b
  have c2 := fun W => rpar_any W a b ha hb
  have c3 := fun W => rpar_any W b a hb ha
  have c4 := fun W => rarnd_any W a b
  have c5 := fun W => rarnd_any W b a
  have c6 := fun W => rfol_any W a b
  have c7 := fun W => rfol_any W b a
  have HX : Hid (rel a b = if slf a b = true then (1, 0) else if par a b = true then (2, 0) else if par b a = true then (3, 0) else if anc a b = true then (4, 0) else if anc b a = true then (5, 0) else if fol a b = true then (6, 0) else if fol b a = true then (7, 0) else (0, 111)) := by show _ = _; simp [rel, hva, hvb]
  clear hva hvb ha hb
  generalize rel a b = y at *
  generalize slf a b = z1 at *
  generalize par a b = z2 at *
  generalize par b a = z3 at *
  generalize anc a b = z4 at *
  generalize anc b a = z5 at *
  generalize fol a b = z6 at *
  generalize fol b a = z7 at *
  obtain ⟨a1, a2, a3⟩ := a
  obtain ⟨b1, b2, b3⟩ := b
  unfold sv at *
  simp only at *
  have HW : Hid (Below w.heap.size w ((w.alloc (.cells #[.int .u64 a1, .int .u64 a2, .int .i64 a3] 24)).alloc (.cells #[.int .u64 b1, .int .u64 b2, .int .i64 b3] 24))) := below2 _ _ _
  have hq0 : ∀ u : Bel ((w.alloc (.cells #[.int .u64 a1, .int .u64 a2, .int .i64 a3] 24)).alloc (.cells #[.int .u64 b1, .int .u64 b2, .int .i64 b3] 24)), u.w.cell? ⟨w.heap.size, 0, none⟩ = some (.int .u64 a1) := fun u => by rw [u.cell _ _ (by simp; omega)]; simp [go_sem]
  have hq1 : ∀ u : Bel ((w.alloc (.cells #[.int .u64 a1, .int .u64 a2, .int .i64 a3] 24)).alloc (.cells #[.int .u64 b1, .int .u64 b2, .int .i64 b3] 24)), u.w.cell? ⟨w.heap.size, 1, none⟩ = some (.int .u64 a2) := fun u => by rw [u.cell _ _ (by simp; omega)]; simp [go_sem]
  have hq2 : ∀ u : Bel ((w.alloc (.cells #[.int .u64 a1, .int .u64 a2, .int .i64 a3] 24)).alloc (.cells #[.int .u64 b1, .int .u64 b2, .int .i64 b3] 24)), u.w.cell? ⟨w.heap.size, 2, none⟩ = some (.int .i64 a3) := fun u => by rw [u.cell _ _ (by simp; omega)]; simp [go_sem]
  have hq3 : ∀ u : Bel ((w.alloc (.cells #[.int .u64 a1, .int .u64 a2, .int .i64 a3] 24)).alloc (.cells #[.int .u64 b1, .int .u64 b2, .int .i64 b3] 24)), u.w.cell? ⟨w.heap.size + 1, 0, none⟩ = some (.int .u64 b1) := fun u => by rw [u.cell _ _ (by simp)]; simp [go_sem]
  have hq4 : ∀ u : Bel ((w.alloc (.cells #[.int .u64 a1, .int .u64 a2, .int .i64 a3] 24)).alloc (.cells #[.int .u64 b1, .int .u64 b2, .int .i64 b3] 24)), u.w.cell? ⟨w.heap.size + 1, 1, none⟩ = some (.int .u64 b2) := fun u => by rw [u.cell _ _ (by simp)]; simp [go_sem]
  have hq5 : ∀ u : Bel ((w.alloc (.cells #[.int .u64 a1, .int .u64 a2, .int .i64 a3] 24)).alloc (.cells #[.int .u64 b1, .int .u64 b2, .int .i64 b3] 24)), u.w.cell? ⟨w.heap.size + 1, 2, none⟩ = some (.int .i64 b3) := fun u => by rw [u.cell _ _ (by simp)]; simp [go_sem]
  go_enter Try.func22, Try.ntmps22
  go_wp2_with fail
  generalize (w.alloc (.cells #[.int .u64 a1, .int .u64 a2, .int .i64 a3] 24)).alloc (.cells #[.int .u64 b1, .int .u64 b2, .int .i64 b3] 24) = W0 at *
  have HS0 : Hid (w.heap.size ≤ W0.heap.size) := HW.out.size
  have HB0 : Hid (∀ x, Below w.heap.size w x → Below w.heap.size w x) := fun _ h => h
  generalize hB0 : w.heap.size = B0 at *
  have HBB : Hid (w.heap.size = B0) := hB0
  clear hB0 HB0
  generalize B0 + 1 = B1 at *
  refine (Calls.bel_first (h1 _)).mono ?_
  rintro e _ ⟨rfl, u0, rfl⟩
  go_wp2_with fail
  refine (Calls.bel_of (h2 _)).mono ?_
  rintro e _ ⟨rfl, u1, rfl⟩
  go_wp2_with fail
  have hd0 := hq0 ⟨_, u1.h.drew⟩
  have hd1 := hq1 ⟨_, u1.h.drew⟩
  have hd2 := hq2 ⟨_, u1.h.drew⟩
  have hd3 := hq3 ⟨_, u1.h.drew⟩
  have hd4 := hq4 ⟨_, u1.h.drew⟩
  have hd5 := hq5 ⟨_, u1.h.drew⟩
  have tok1 : True := trivial
  have tok2 : True := trivial
  have tok3 : True := trivial
  have tok4 : True := trivial
  have tok5 : True := trivial
  have tok6 : True := trivial
  have tok7 : True := trivial
  go_region_held3 (fun W => W.cell? ⟨B0, 0, none⟩ = some (.int .u64 a1) ∧ W.cell? ⟨B0, 1, none⟩ = some (.int .u64 a2) ∧ W.cell? ⟨B0, 2, none⟩ = some (.int .i64 a3) ∧ W.cell? ⟨B1, 0, none⟩ = some (.int .u64 b1) ∧ W.cell? ⟨B1, 1, none⟩ = some (.int .u64 b2) ∧ W.cell? ⟨B1, 2, none⟩ = some (.int .i64 b3)) (first | exact ⟨hd0, hd1, hd2, hd3, hd4, hd5⟩ | exact ⟨hq0 _, hq1 _, hq2 _, hq3 _, hq4 _, hq5 _⟩ | go_keep)
    (first
      | (go_at_call 8; have _t := tok1; refine (Calls.bel_of (u := ⟨_, u1.h.drew⟩) (c1 _)).mono ?_; rintro e _ ⟨rfl, u2, rfl⟩; clear tok1 _t)
      | (go_at_call 13; have _t := tok2; refine (Calls.bel_of (u := u2) (c2 _)).mono ?_; rintro e _ ⟨rfl, u3, rfl⟩; clear tok2 _t)
      | (go_at_call 13; have _t := tok3; refine (Calls.bel_of (u := u3) (c3 _)).mono ?_; rintro e _ ⟨rfl, u4, rfl⟩; clear tok3 _t)
      | (go_at_call 10; have _t := tok4; refine (Calls.bel_of (u := u4) (c4 _)).mono ?_; rintro e _ ⟨rfl, u5, rfl⟩; clear tok4 _t)
      | (go_at_call 10; have _t := tok5; refine (Calls.bel_of (u := u5) (c5 _)).mono ?_; rintro e _ ⟨rfl, u6, rfl⟩; clear tok5 _t)
      | (go_at_call 16; have _t := tok6; refine (Calls.bel_of (u := u6) (c6 _)).mono ?_; rintro e _ ⟨rfl, u7, rfl⟩; clear tok6 _t)
      | (go_at_call 16; have _t := tok7; refine (Calls.bel_of (u := u7) (c7 _)).mono ?_; rintro e _ ⟨rfl, u8, rfl⟩; clear tok7 _t))
  have HC : Hid (∀ (i : Nat) (z : Bool), [z1, z2, z3, z4, z5, z6, z7][i]? = some z → (u8.w.alloc (.cells #[.bool z1, .bool z2, .bool z3, .bool z4, .bool z5, .bool z6, .bool z7] 4)).cell? ⟨u8.w.heap.size, i, none⟩ = some (.bool z)) := cells_bool u8.w [z1, z2, z3, z4, z5, z6, z7] 4
  have HE : Hid (Below B0 w (u8.w.alloc (.cells #[.bool z1, .bool z2, .bool z3, .bool z4, .bool z5, .bool z6, .bool z7] 4))) := (HW.out.trans (u8.h.mono HS0.out)).alloc (Nat.le_trans HS0.out u8.h.size) _
  have HF : Hid (y = ft [z1, z2, z3, z4, z5, z6, z7] 0) := by show _ = _; rw [HX.out]; simp [ft]
  have hlen : [z1, z2, z3, z4, z5, z6, z7].length = 7 := rfl
  generalize u8.w.alloc (.cells #[.bool z1, .bool z2, .bool z3, .bool z4, .bool z5, .bool z6, .bool z7] 4) = W1 at *
  generalize u8.w.heap.size = g at *
  generalize [z1, z2, z3, z4, z5, z6, z7] = Z at *
  have HL : Hid (Z.length = 7) := hlen
  clear hd0 hd1 hd2 hd3 hd4 hd5 hq0 hq1 hq2 hq3 hq4 hq5 h1 h2 c1 c2 c3 c4 c5 c6 c7 HX hlen HW HS0
  go_wp2
  go_loop [7] (fun v => ∃ i : Nat, i ≤ 7 ∧ v = .int .i64 (i : Int) ∧ Hid (y = ft (Z.drop i) i)) (fun v => 7 - (intOf v).toNat)
  case atStart => exact ⟨0, by omega, rfl, HF⟩
  case round =>
    obtain ⟨i, hi, rfl, HY⟩ := hrel
    by_cases hlt : i < 7
    · obtain ⟨z, hz⟩ : ∃ z, Z[i]? = some z := ⟨_, List.getElem?_eq_getElem (by rw [HL.out]; exact hlt)⟩
      have hcell := HC.out i z hz
      have HS : Hid (ft (Z.drop i) i = if z = true then ((i : Int) + 1, 0) else ft (Z.drop (i + 1)) ((i + 1 : Nat) : Int)) := ft_at hz
      clear hz
      cases z
      · go_wp2
        go_round
        case rel => exact ⟨i + 1, by omega, by go_num, by show _ = _; rw [HY.out, HS.out]; rfl⟩
        case measure => simp [intOf]; omega
      · go_wp2
        go_ret2
        exact ⟨by rw [HY.out, HS.out]; rfl, by rw [HBB.out]; exact HE.out⟩
    · have : i = 7 := by omega
      have HN : Hid (ft (Z.drop i) i = (0, 111)) := by show _ = _; rw [List.drop_eq_nil_of_le (by rw [HL.out]; omega)]; rfl
      clear this
      go_wp2
      go_ret2
      exact ⟨by rw [HY.out, HN.out]; rfl, by rw [HBB.out]; exact HE.out⟩

set_option maxRecDepth 100000 in
theorem rrel_no (w : World) (a b : Sp) (h : val a = false ∨ val b = false) : Calls Try.prog 22 #[.agg (sv a), .agg (sv b)] w fun e w' => e = .returned (.tuple #[.int .i64 0, .int .i64 110]) ∧ Below w.heap.size w w' := by
  have h1 := fun W => rval_any W a
  have h2 := fun W => rval_any W b
  cases hva : val a
  · rw [hva] at h1
    clear h hva h2
    obtain ⟨a1, a2, a3⟩ := a
    obtain ⟨b1, b2, b3⟩ := b
    unfold sv at *
    simp only at *
    go_enter Try.func22, Try.ntmps22
    go_wp2_with fail
    refine (Calls.bel_first (h1 _)).mono ?_
    rintro e _ ⟨rfl, u0, rfl⟩
    go_wp2
    go_ret2
    exact ⟨rfl, rel_end (below2 _ _ _) u0⟩
  · rw [hva] at h1
    have hvb : val b = false := by
      rcases h with h | h
      · rw [h] at hva; cases hva
      · exact h
    rw [hvb] at h2
    clear h hva hvb
    obtain ⟨a1, a2, a3⟩ := a
    obtain ⟨b1, b2, b3⟩ := b
    unfold sv at *
    simp only at *
    go_enter Try.func22, Try.ntmps22
    go_wp2_with fail
    refine (Calls.bel_first (h1 _)).mono ?_
    rintro e _ ⟨rfl, u0, rfl⟩
    go_wp2_with fail
    refine (Calls.bel_of (h2 _)).mono ?_
    rintro e _ ⟨rfl, u1, rfl⟩
    go_wp2
    go_ret2
    exact ⟨rfl, rel_end (below2 _ _ _) u1⟩

theorem rrel_any (w : World) (a b : Sp) (ha : Lvl a) (hb : Lvl b) : Calls Try.prog 22 #[.agg (sv a), .agg (sv b)] w fun e w' => e = .returned (.tuple #[.int .i64 (rel a b).1, .int .i64 (rel a b).2]) ∧ Below w.heap.size w w' := by
  by_cases h : val a = false ∨ val b = false
  · have e : rel a b = (0, 110) := by simp [rel, h]
    rw [e]
    exact rrel_no w a b h
  · have h' : val a = true ∧ val b = true := by
      cases hva : val a <;> cases hvb : val b <;> simp_all
    exact rrel_yes w a b ha hb h'.1 h'.2

end Go.Proofs.Ytfhbfilmejegcaa
