/- slices.Insert of one element into a row of one's own, at items. -/
import Derived.Test.YtiggpbjgnododaaIlaw
namespace Go.Proofs.Ytiggpbjgnododaa.T
open Go.RowKit
set_option linter.unusedVariables false

theorem infoE : InfoOf Try.prog 28 (.agg #[.int .i64 0, .int .i64 0]) 2 16 := by unfold InfoOf; kernel_rfl
theorem sizeE : (Try.prog.info? 28).map (·.size) = some 2 := by kernel_rfl

/-- What an insertion leaves. -/
def InsP (w : World) (base : Nat) (v : Value) (n i : Nat) (xs vs : List Value) (e : Ending) (w' : World) : Prop :=
  ∃ v', e = .returned v' ∧ w'.ownsRow base 28 2 v' (n + 1) (xs.take (i * 2) ++ vs ++ xs.drop (i * 2)) ∧ w.grownBy w' v.ownBlock ∧ (v'.ownBlock = v.ownBlock ∨ v'.ownBlock = some w.heap.size)

set_option maxRecDepth 100000 in
set_option maxHeartbeats 1000000 in
theorem ins_end (w : World) (base : Nat) (a : Option Addr) (n cap vb : Nat) (xs vs : List Value) (hown : w.ownsRow base 28 2 (.slice a n cap) n xs) (hv : w.heap[vb]? = some (.cells vs.toArray 28 (0, 0))) (hvl : vs.length = 2) (h1v : ∀ u ∈ vs, u.oneCell' = true)
    (hn : n ≤ 1048576) (hbase : base ≤ w.heap.size) :
    Calls Try.prog 52 #[.slice a n cap, .int .i64 (n : Int), .slice (some ⟨vb, 0, none⟩) 1 1] w (InsP w base (.slice a n cap) n n xs vs) := by
  have hn' : (n : Int) ≤ 1048576 := by omega
  obtain ⟨hnc, hxl, -⟩ := row_cell hown
  have hcm : cap ≤ maxLen := by
    rcases hown.2 with ⟨e, _⟩ | ⟨g, cap', cur, e, _, _, _, h, _⟩
    · simp only [Value.slice.injEq] at e; omega
    · simp only [Value.slice.injEq, true_and] at e; omega
  unfold maxLen at hcm
  have hcm' : (cap : Int) ≤ 9223372036854775807 := by omega
  have H : Hid (w.ownsRow base 28 2 (.slice a n cap) n xs) := hown
  have HV : Hid (∀ j u, vs[j]? = some u → ∃ ad, (some ⟨vb, 0, none⟩ : Option Addr) = some ad ∧ w.cell? (ad.add j) = some u) := fun j u hu => ⟨_, rfl, by
    rw [addr_add, Nat.zero_add, cell_of hv]
    exact hu⟩
  clear hown hv
  go_enter Try.func52, Try.ntmps52
  cases a with
  | none =>
    go_wp2_with (at_builtin; refine wpList_app rfl _ _ rfl Try.underlying31 infoE rfl (by decide) base _ n xs rfl H.out _ 1 1 vs rfl (by omega) HV.out h1v (by unfold maxLen; omega) (by omega) hbase ?_; intro v' w' k1 k2 k3 k4)
    all_goals
      go_ret
      refine ⟨v', rfl, ?_, k2, k4⟩
      rw [List.take_of_length_le (by omega), List.drop_of_length_le (by omega), List.append_nil]
      exact k1
  | some ad =>
    go_wp2_with (at_builtin; refine wpList_app rfl _ _ rfl Try.underlying31 infoE rfl (by decide) base _ n xs rfl H.out _ 1 1 vs rfl (by omega) HV.out h1v (by unfold maxLen; omega) (by omega) hbase ?_; intro v' w' k1 k2 k3 k4)
    all_goals
      go_ret
      refine ⟨v', rfl, ?_, k2, k4⟩
      rw [List.take_of_length_le (by omega), List.drop_of_length_le (by omega), List.append_nil]
      exact k1

set_option maxRecDepth 100000 in
set_option maxHeartbeats 2000000 in
theorem ins_grow (w : World) (base : Nat) (a : Option Addr) (n cap vb i : Nat) (xs vs : List Value) (hown : w.ownsRow base 28 2 (.slice a n cap) n xs) (hv : w.heap[vb]? = some (.cells vs.toArray 28 (0, 0))) (hvl : vs.length = 2) (h1v : ∀ u ∈ vs, u.oneCell' = true) (h1x : ∀ u ∈ xs, u.oneCell' = true)
    (hn : n ≤ 1048576) (hbase : base ≤ w.heap.size) (hi : i < n) (hroom : cap < n + 1) :
    Calls Try.prog 52 #[.slice a n cap, .int .i64 (i : Int), .slice (some ⟨vb, 0, none⟩) 1 1] w (InsP w base (.slice a n cap) n i xs vs) := by
  obtain ⟨g, cur, rfl, hbg, hcur, hnc, hcm, hcl, hct⟩ := full_of_own hown (by omega)
  obtain ⟨-, hxl, -⟩ := row_cell hown
  have hgl : g < w.heap.size := (Array.getElem?_eq_some_iff.1 hcur).1
  have hvbl : vb < w.heap.size := (Array.getElem?_eq_some_iff.1 hv).1
  unfold maxLen at hcm
  have hn' : (n : Int) ≤ 1048576 := by omega
  have hcm' : (cap : Int) ≤ 9223372036854775807 := by omega
  have hc1 : (cap : Int) < (n : Int) + 1 := by omega
  have hc2 : (n : Int) ≤ (cap : Int) := by omega
  have hi1 : (i : Int) < (n : Int) := by omega
  have hi2 : ((i : Int) == (n : Int)) = false := by simp; omega
  have hi3 : ¬ ((i : Int) = (n : Int)) := by omega
  have hi4 : (i : Int) ≤ (cap : Int) := by omega
  have hi5 : ¬ (cap = i) := by omega
  have hk : (n : Int) + 1 - (i : Int) = ((n + 1 - i : Nat) : Int) := by omega
  have hik : Hid (i + (n + 1 - i) = n + 1) := by show _ = _; omega
  have Hx : Hid (∀ j u, (xs.take (i * 2))[j]? = some u → w.cell? ((⟨g, 0, none⟩ : Addr).add j) = some u) := fun j u hu => by
    rw [addr_add, Nat.zero_add, cell_of hcur]
    rw [List.getElem?_take] at hu
    split at hu
    · rw [← hct, List.getElem?_take] at hu
      split at hu
      · exact hu
      · cases hu
    · cases hu
  have Hcur : Hid (w.heap[g]? = some (.cells cur.toArray 28 (0, 0))) := hcur
  have Hv : Hid (w.heap[vb]? = some (.cells vs.toArray 28 (0, 0))) := hv
  have Hct : Hid (cur.take (n * 2) = xs) := hct
  have Hxl : Hid (xs.length = n * 2) := hxl
  have Hvl : Hid (vs.length = 2) := hvl
  have Hcl : Hid (cur.length = cap * 2) := hcl
  have tok1 : True := trivial
  have tok2 : True := trivial
  clear hown hcur hv hct hxl hvl hcl
  go_enter Try.func52, Try.ntmps52
  go_wp2_with (first
    | (at_builtin; have _t := tok1; go_must (refine wpList_zeros _ rfl _ _ 31 3 28 .i64 .i64 rfl Try.underlying31 Try.underlying3 infoE rfl (by decide) ⟨g, 0, none⟩ i cap _ (n + 1 - i) rfl (xs.take (i * 2)) (by have := Hxl.out; simp; omega) rfl rfl Hx.out (by omega) (by omega) (by omega) (by omega) ?_; intro w1 G cur1 k1 k2 k3 k4 k5 k6 k7; rw [hik.out] at k4 ⊢; clear tok1 _t; unfold maxLen at k5; have k5' : (G : Int) ≤ 9223372036854775807 := (by omega); have k8 : ¬ (G = i) := (by omega); have k9 : (n : Int) + 1 ≤ (G : Int) := (by omega); have K1 : Hid (w1.heap[w.heap.size]? = some (.cells cur1.toArray 28 (0, 0))) := k1; clear k1; have K2 : Hid (cur1.length = G * 2) := k2; clear k2; have K3 : Hid (cur1.take (i * 2) = xs.take (i * 2)) := k3; clear k3; have K6 : Hid (w.grownBy w1 none) := k6; clear k6; have K7 : Hid (w1.heap.size = w.heap.size + 1) := k7; clear k7))
    | (have _t := tok2; have _k := K1; (refine wpList_copyK _ rfl _ _ 31 31 28 rfl 2 w.heap.size (i * 2) (n + 1 - i) (G - i) (some ⟨vb, 0, none⟩) 1 1 cur1 28 vs rfl rfl Try.underlying31 sizeE K1.out (by rw [Hvl.out, show Nat.min 1 (n + 1 - i) = 1 from Nat.min_eq_left (by omega)]) (fun j u hu => ⟨_, rfl, by
          rw [addr_add, Nat.zero_add, World.cell?_of_block (w := w) (a := ⟨vb, j, none⟩) (K6.out.block vb hvbl (by simp)), cell_of Hv.out]; exact hu⟩) (by rw [Hvl.out, K2.out]; omega) h1v ?_; intro w2 m1 m2 m3; clear tok2 _t; have M1 : Hid (w2.heap[w.heap.size]? = some (.cells (over cur1 (i * 2) vs).toArray 28 (0, 0))) := m1; clear m1; have M2 : Hid (w1.grownBy w2 (some w.heap.size)) := m2; clear m2; have M3 : Hid (w2.heap.size = w1.heap.size) := m3; clear m3)))
  have hd0 : (i : Int) ≤ (n : Int) := by omega
  have hd0' : i ≤ n := by omega
  have hd1 : (0 : Int) ≤ (i : Int) + 1 := by omega
  have hd2 : (i : Int) + 1 ≤ (n : Int) + 1 := by omega
  have hd3 : ((i : Int) + 1).toNat = i + 1 := by omega
  have hd4 : ¬ (G = i + 1) := by omega
  have hd5 : (i : Int) + 1 ≤ (G : Int) := by omega
  have hd6 : IntKind.i64.wrap ((i : Int) + 1) = (i : Int) + 1 := by rw [IntKind.wrap_i64]; omega
  have Hsrc : Hid (∀ j u, (xs.drop (i * 2))[j]? = some u → ∃ ad, (some ⟨g, i * 2, none⟩ : Option Addr) = some ad ∧ w2.drew.cell? (ad.add j) = some u) := fun j u hu => ⟨_, rfl, by
    have hgg : w2.heap[g]? = w.heap[g]? := (M2.out.block g (by have := K7.out; omega) (by simp; omega)).trans (K6.out.block g hgl (by simp))
    rw [addr_add]
    show w2.cell? _ = _
    rw [World.cell?_of_block (w := w) (a := ⟨g, i * 2 + j, none⟩) hgg, cell_of Hcur.out]
    rw [List.getElem?_drop] at hu
    rw [← Hct.out, List.getElem?_take] at hu
    split at hu
    · simpa using hu
    · cases hu⟩
  go_region_law (go_must (refine step_copyK rfl _ _ 31 31 28 rfl 2 w.heap.size ((i + 1) * 2) (n + 1 - (i + 1)) (G - (i + 1)) (some ⟨g, i * 2, none⟩) (n - i) (cap - i) (over cur1 (i * 2) vs) 28 (xs.drop (i * 2)) (by simp [Act.eval, Act.put]) (by simp [Act.eval, Act.put]) Try.underlying31 sizeE M1.out (by
      have := Hxl.out
      rw [List.length_drop, show Nat.min (n - i) (n + 1 - (i + 1)) = n - i from by simp only [Nat.min_def]; split <;> omega]; omega) Hsrc.out (by
      have h1 := Hxl.out
      have h2 := K2.out
      have h3 := Hvl.out
      rw [over_length (by omega), List.length_drop]; omega) (fun u hu => h1x u (List.mem_of_mem_drop hu)) ?_; intro w3 p1 p2 p3; have P1 : Hid (w3.heap[w.heap.size]? = some (.cells (over (over cur1 (i * 2) vs) ((i + 1) * 2) (xs.drop (i * 2))).toArray 28 (0, 0))) := p1; clear p1; have P2 : Hid (w2.grownBy w3 (some w.heap.size)) := ⟨p2.os, p2.tape, p2.output, p2.size, p2.block⟩; clear p2; have P3 : Hid (w3.heap.size = w2.heap.size) := p3; clear p3))
  all_goals
    go_wp2
    go_ret
    have z1 := K7.out
    have z2 := M3.out
    have hgr : w.grownBy w3 (Value.slice (some ⟨g, 0, none⟩) n cap).ownBlock :=
      ⟨P2.out.os.trans (M2.out.os.trans K6.out.os), P2.out.tape.trans (M2.out.tape.trans K6.out.tape), P2.out.output.trans (M2.out.output.trans K6.out.output), by have := P3.out; omega, fun k hk _ =>
        (P2.out.block k (by omega) (by simp; omega)).trans ((M2.out.block k (by omega) (by simp; omega)).trans (K6.out.block k hk (by simp)))⟩
    have h1 := Hxl.out
    have h2 := K2.out
    have h3 := Hvl.out
    refine ⟨_, rfl, own_of_full P1.out hbase (by omega) (by unfold maxLen; omega) (by rw [over_length (by rw [over_length (by omega), List.length_drop]; omega), over_length (by omega)]; exact h2) ?_, hgr, .inr rfl⟩
    have := over_grow (cur := cur1) (xs := xs) (vs := vs) (i := i) (n := n) (k := 2) h1 K3.out (by omega) h3 (by omega)
    simpa using this

theorem overlaps_no (w : World) (vb b off lb cb : Nat) (hne : vb ≠ b) (vs cur : List Value) (t t' : TypeId) (hv : w.heap[vb]? = some (.cells vs.toArray t (0, 0))) (hb : w.heap[b]? = some (.cells cur.toArray t' (0, 0))) (hc : cur.length ≠ 0) :
    (callFunc 79 #[.slice (some ⟨vb, 0, none⟩) 1 1, .slice (some ⟨b, off, none⟩) lb cb]).run Try.prog w = .ok (.value (.bool false)) w := by
  rw [run_callFunc_extern Try.func79 (by kernel_rfl) (by kernel_rfl) (by kernel_rfl) (e := Extern.SlicesOverlaps.overlaps #[31, 31] #[4]) (by kernel_rfl),
    Lib.run_overlaps_apart w 31 4 28 Try.underlying31 2 (fun w => by obtain ⟨i0, hi, _, h1, _⟩ := infoE.parts; simp [sizeOf, typeInfo, hi, h1]) ⟨vb, 0, none⟩ ⟨b, off, none⟩ 1 1 lb cb hne t t' vs.length cur.length (by simp [World.shape?, hv]) (by simp [World.shape?, hb]) hc (by simp [World.frozen?, hv]) (by simp [World.frozen?, hv])]
  rfl

set_option maxRecDepth 100000 in
set_option maxHeartbeats 2000000 in
theorem ins_shift (w : World) (base : Nat) (a : Option Addr) (n cap vb i : Nat) (xs vs : List Value) (hown : w.ownsRow base 28 2 (.slice a n cap) n xs) (hv : w.heap[vb]? = some (.cells vs.toArray 28 (0, 0))) (hvl : vs.length = 2) (h1v : ∀ u ∈ vs, u.oneCell' = true) (h1x : ∀ u ∈ xs, u.oneCell' = true)
    (hn : n ≤ 1048576) (hbase : base ≤ w.heap.size) (hi : i < n) (hroom : n + 1 ≤ cap) (hne : (Value.slice a n cap).ownBlock ≠ some vb) :
    Calls Try.prog 52 #[.slice a n cap, .int .i64 (i : Int), .slice (some ⟨vb, 0, none⟩) 1 1] w (InsP w base (.slice a n cap) n i xs vs) := by
  obtain ⟨g, cur, rfl, hbg, hcur, hnc, hcm, hcl, hct⟩ := full_of_own hown (by omega)
  obtain ⟨-, hxl, -⟩ := row_cell hown
  have hgl : g < w.heap.size := (Array.getElem?_eq_some_iff.1 hcur).1
  have hvbl : vb < w.heap.size := (Array.getElem?_eq_some_iff.1 hv).1
  have hvg : vb ≠ g := fun e => hne (by rw [e]; rfl)
  have hov : ∀ lb cb, (callFunc 79 #[.slice (some ⟨vb, 0, none⟩) 1 1, .slice (some ⟨g, (i + 1) * 2, none⟩) lb cb]).run Try.prog w = .ok (.value (.bool false)) w := fun lb cb => overlaps_no w vb g _ lb cb hvg vs cur _ _ hv hcur (by omega)
  unfold maxLen at hcm
  have hn' : (n : Int) ≤ 1048576 := by omega
  have hcm' : (cap : Int) ≤ 9223372036854775807 := by omega
  have hc1 : (n : Int) + 1 ≤ (cap : Int) := by omega
  have hc2 : (n : Int) ≤ (cap : Int) := by omega
  have hi1 : (i : Int) < (n : Int) := by omega
  have hi2 : ((i : Int) == (n : Int)) = false := by simp; omega
  have hi3 : ¬ ((i : Int) = (n : Int)) := by omega
  have hi4 : (i : Int) ≤ (cap : Int) := by omega
  have hi5 : ¬ (cap = i) := by omega
  have hi6 : ¬ (cap = i + 1) := by omega
  have hi7 : (i : Int) + 1 ≤ (n : Int) + 1 := by omega
  have hi8 : i ≤ n + 1 := by omega
  have hi9 : (i : Int) ≤ (n : Int) + 1 := by omega
  have hd1 : (0 : Int) ≤ (i : Int) + 1 := by omega
  have hd3 : ((i : Int) + 1).toNat = i + 1 := by omega
  have hd6 : IntKind.i64.wrap ((i : Int) + 1) = (i : Int) + 1 := by rw [IntKind.wrap_i64]; omega
  have Hsrc : Hid (∀ j u, (xs.drop (i * 2))[j]? = some u → ∃ ad, (some ⟨g, i * 2, none⟩ : Option Addr) = some ad ∧ w.drew.cell? (ad.add j) = some u) := fun j u hu => ⟨_, rfl, by
    rw [addr_add]
    show w.cell? _ = _
    rw [cell_of hcur]
    rw [List.getElem?_drop] at hu
    rw [← hct, List.getElem?_take] at hu
    split at hu
    · simpa using hu
    · cases hu⟩
  have Hcur : Hid (w.heap[g]? = some (.cells cur.toArray 28 (0, 0))) := hcur
  have Hv : Hid (w.heap[vb]? = some (.cells vs.toArray 28 (0, 0))) := hv
  have Hct : Hid (cur.take (n * 2) = xs) := hct
  have Hxl : Hid (xs.length = n * 2) := hxl
  have Hvl : Hid (vs.length = 2) := hvl
  have Hcl : Hid (cur.length = cap * 2) := hcl
  have tok2 : True := trivial
  clear hown hcur hv hct hxl hvl hcl hne
  go_enter Try.func52, Try.ntmps52
  go_wp2_with (simp only [hov])
  go_region_law (go_must (refine step_copyK rfl _ _ 31 31 28 rfl 2 g ((i + 1) * 2) (n + 1 - (i + 1)) (cap - (i + 1)) (some ⟨g, i * 2, none⟩) (n + 1 - i) (cap - i) cur 28 (xs.drop (i * 2)) (by simp [Act.eval, Act.put]) (by simp [Act.eval, Act.put]) Try.underlying31 sizeE Hcur.out (by
      have := Hxl.out
      rw [List.length_drop, show Nat.min (n + 1 - i) (n + 1 - (i + 1)) = n - i from by simp only [Nat.min_def]; split <;> omega]; omega) Hsrc.out (by
      have h1 := Hxl.out
      have h2 := Hcl.out
      rw [List.length_drop]; omega) (fun u hu => h1x u (List.mem_of_mem_drop hu)) ?_; intro w2 p1 p2 p3; have M1 : Hid (w2.heap[g]? = some (.cells (over cur ((i + 1) * 2) (xs.drop (i * 2))).toArray 28 (0, 0))) := p1; clear p1; have M2 : Hid (w.grownBy w2 (some g)) := ⟨p2.os, p2.tape, p2.output, p2.size, p2.block⟩; clear p2; have M3 : Hid (w2.heap.size = w.heap.size) := p3; clear p3))
  all_goals
    go_wp2_with (have _t := tok2; (refine wpList_copyK _ rfl _ _ 31 31 28 rfl 2 g (i * 2) (n + 1 - i) (cap - i) (some ⟨vb, 0, none⟩) 1 1 (over cur ((i + 1) * 2) (xs.drop (i * 2))) 28 vs rfl rfl Try.underlying31 sizeE M1.out (by rw [Hvl.out, show Nat.min 1 (n + 1 - i) = 1 from Nat.min_eq_left (by omega)]) (fun j u hu => ⟨_, rfl, by
          rw [addr_add, Nat.zero_add, World.cell?_of_block (w := w) (a := ⟨vb, j, none⟩) (M2.out.block vb hvbl (by simp; omega)), cell_of Hv.out]; exact hu⟩) (by
            have h1 := Hxl.out
            have h2 := Hcl.out
            rw [Hvl.out, over_length (by rw [List.length_drop]; omega)]; omega) h1v ?_; intro w3 m1 m2 m3; clear tok2 _t; have P1 : Hid (w3.heap[g]? = some (.cells (over (over cur ((i + 1) * 2) (xs.drop (i * 2))) (i * 2) vs).toArray 28 (0, 0))) := m1; clear m1; have P2 : Hid (w2.grownBy w3 (some g)) := m2; clear m2; have P3 : Hid (w3.heap.size = w2.heap.size) := m3; clear m3))
    go_ret
    have z2 := M3.out
    have hgr : w.grownBy w3 (Value.slice (some ⟨g, 0, none⟩) n cap).ownBlock :=
      ⟨P2.out.os.trans M2.out.os, P2.out.tape.trans M2.out.tape, P2.out.output.trans M2.out.output, by have := P3.out; omega, fun k hk hne => (P2.out.block k (by omega) hne).trans (M2.out.block k hk hne)⟩
    have h1 := Hxl.out
    have h2 := Hcl.out
    have h3 := Hvl.out
    refine ⟨_, rfl, own_of_full P1.out hbg (by omega) (by unfold maxLen; omega) (by rw [over_length (by rw [over_length (by rw [List.length_drop]; omega)]; omega), over_length (by rw [List.length_drop]; omega)]; exact h2) ?_, hgr, .inl rfl⟩
    have := over_shift (cur := cur) (xs := xs) (vs := vs) (i := i) (n := n) (k := 2) Hct.out (by omega) h3 (by omega)
    simpa using this

theorem insert_any (w : World) (base : Nat) (a : Option Addr) (n cap vb i : Nat) (xs vs : List Value) (hown : w.ownsRow base 28 2 (.slice a n cap) n xs) (hv : w.heap[vb]? = some (.cells vs.toArray 28 (0, 0))) (hvl : vs.length = 2) (h1v : ∀ u ∈ vs, u.oneCell' = true) (h1x : ∀ u ∈ xs, u.oneCell' = true)
    (hn : n ≤ 1048576) (hbase : base ≤ w.heap.size) (hi : i ≤ n) (hne : (Value.slice a n cap).ownBlock ≠ some vb) :
    Calls Try.prog 52 #[.slice a n cap, .int .i64 (i : Int), .slice (some ⟨vb, 0, none⟩) 1 1] w (InsP w base (.slice a n cap) n i xs vs) := by
  by_cases hin : i = n
  · subst hin
    exact ins_end w base a i cap vb xs vs hown hv hvl h1v hn hbase
  · by_cases hr : n + 1 ≤ cap
    · exact ins_shift w base a n cap vb i xs vs hown hv hvl h1v h1x hn hbase (by omega) hr hne
    · exact ins_grow w base a n cap vb i xs vs hown hv hvl h1v h1x hn hbase (by omega) (by omega)

end Go.Proofs.Ytiggpbjgnododaa.T
