/- slices.Insert and slices.Delete of one element: a row of one's own, at handles. -/
import Derived.Test.YtjkgjckkglfokaaGreatU01
import Derived.Test.YtjkgjckkglfokaaGreatU09
namespace Go.Proofs.YtjkgjckkglfokaaGreat.Gr.H
open Go.RowKit
set_option linter.unusedVariables false
set_option linter.unusedSimpArgs false
set_option maxRecDepth 100000
set_option maxHeartbeats 2000000
theorem infoE : InfoOf Tryz.prog 27 (.int .u64 0) 1 8 := by unfold InfoOf; kernel_rfl
theorem sizeE : (Tryz.prog.info? 27).map (·.size) = some 1 := by kernel_rfl
def InsP (w : World) (base : Nat) (v : Value) (n i : Nat) (xs vs : List Value) (e : Ending) (w' : World) : Prop :=
 ∃ v', e = .returned v' /\ w'.ownsRow base 27 1 v' (n + 1) (xs.take (i * 1) ++ vs ++ xs.drop (i * 1)) /\ w.grownBy w' v.ownBlock /\ (v'.ownBlock = v.ownBlock \/ v'.ownBlock = some w.heap.size)
theorem ins_end (w : World) (base : Nat) (a : Option Addr) (n cap vb : Nat) (xs vs : List Value) (hown : w.ownsRow base 27 1 (.slice a n cap) n xs) (hv : w.heap[vb]? = some (.cells vs.toArray 27 (0, 0))) (hvl : vs.length = 1) (h1v : ∀ u ∈ vs, u.oneCell' = true)
  (hn : n <= 1048576) (hbase : base <= w.heap.size) :
  Calls Tryz.prog 120 #[.slice a n cap, .int .i64 (n : Int), .slice (some ⟨vb, 0, none⟩) 1 1] w (InsP w base (.slice a n cap) n n xs vs) := by
 have hn' : (n : Int) <= 1048576 := by omega
 obtain ⟨hnc, hxl, -⟩ := row_cell hown
 have hcm : cap <= maxLen := by
  rcases hown.2 with ⟨e, _⟩ | ⟨g, cap', cur, e, _, _, _, h, _⟩
  ·simp only [Value.slice.injEq] at e; omega
  ·simp only [Value.slice.injEq, true_and] at e; omega
 unfold maxLen at hcm
 have hcm' : (cap : Int) <= 9223372036854775807 := by omega
 have H := hid hown
 have HV : Hid (∀ j u, vs[j]? = some u -> ∃ ad, (some ⟨vb, 0, none⟩ : Option Addr) = some ad /\ w.cell? (ad.add j) = some u) := fun j u hu => ⟨_, rfl, by
  rw [addrP, Nat.zero_add, cell_of hv]
  exact hu⟩
 clear hown hv
 go_enter Tryz.func120, Tryz.ntmps120
 cases a with
 | none =>
  go_wp2_with (at_builtin; refine wpList_app rfl _ _ rfl Tryz.underlying23 infoE rfl (by decide) base _ n xs rfl H.out _ 1 1 vs rfl (by omega) HV.out h1v (by unfold maxLen; omega) (by omega) hbase ?_; intro v' w' k1 k2 k3 k4)
  all_goals
   go_ret
   refine ⟨v', rfl, ?_, k2, k4⟩
   rw [List.take_of_length_le (by omega), List.drop_of_length_le (by omega), List.append_nil]
   exact k1
 | some ad =>
  go_wp2_with (at_builtin; refine wpList_app rfl _ _ rfl Tryz.underlying23 infoE rfl (by decide) base _ n xs rfl H.out _ 1 1 vs rfl (by omega) HV.out h1v (by unfold maxLen; omega) (by omega) hbase ?_; intro v' w' k1 k2 k3 k4)
  all_goals
   go_ret
   refine ⟨v', rfl, ?_, k2, k4⟩
   rw [List.take_of_length_le (by omega), List.drop_of_length_le (by omega), List.append_nil]
   exact k1
theorem ins_grow (w : World) (base : Nat) (a : Option Addr) (n cap vb i : Nat) (xs vs : List Value) (hown : w.ownsRow base 27 1 (.slice a n cap) n xs) (hv : w.heap[vb]? = some (.cells vs.toArray 27 (0, 0))) (hvl : vs.length = 1) (h1v : ∀ u ∈ vs, u.oneCell' = true) (h1x : ∀ u ∈ xs, u.oneCell' = true)
  (hn : n <= 1048576) (hbase : base <= w.heap.size) (hi : i < n) (hroom : cap < n + 1) :
  Calls Tryz.prog 120 #[.slice a n cap, .int .i64 (i : Int), .slice (some ⟨vb, 0, none⟩) 1 1] w (InsP w base (.slice a n cap) n i xs vs) := by
 obtain ⟨g, cur, rfl, hbg, hcur, hnc, hcm, hcl, hct⟩ := full_of_own hown (by omega)
 obtain ⟨-, hxl, -⟩ := row_cell hown
 have hgl : g < w.heap.size := (Array.getElem?_eq_some_iff.1 hcur).1
 have hvbl : vb < w.heap.size := (Array.getElem?_eq_some_iff.1 hv).1
 unfold maxLen at hcm
 have hn' : (n : Int) <= 1048576 := by omega
 have hcm' : (cap : Int) <= 9223372036854775807 := by omega
 have hc1 : (cap : Int) < (n : Int) + 1 := by omega
 have hc2 : (n : Int) <= (cap : Int) := by omega
 have hi1 : (i : Int) < (n : Int) := by omega
 have hi2 : ((i : Int) == (n : Int)) = false := by simp; omega
 have hi3 : ¬ ((i : Int) = (n : Int)) := by omega
 have hi4 : (i : Int) <= (cap : Int) := by omega
 have hi5 : ¬ (cap = i) := by omega
 have hk : (n : Int) + 1 - (i : Int) = ((n + 1 - i : Nat) : Int) := by omega
 have hik : Hid (i + (n + 1 - i) = n + 1) := by show _ = _; omega
 have Hx : Hid (∀ j u, (xs.take (i * 1))[j]? = some u -> w.cell? ((⟨g, 0, none⟩ : Addr).add j) = some u) := fun j u hu => by
  rw [addrP, Nat.zero_add, cell_of hcur]
  rw [List.getElem?_take] at hu
  split at hu
  ·rw [<- hct, List.getElem?_take] at hu
   split at hu
   ·exact hu
   ·cases hu
  ·cases hu
 have Hcur := hid hcur
 have Hv := hid hv
 have Hct := hid hct
 have Hxl := hid hxl
 have Hvl := hid hvl
 have Hcl := hid hcl
 have tok1 : True := trivial
 have tok2 : True := trivial
 clear hown hcur hv hct hxl hvl hcl
 go_enter Tryz.func120, Tryz.ntmps120
 go_wp2_with (first
  | (at_builtin; have _t := tok1; go_must (refine wpList_zeros _ rfl _ _ 23 3 27 .i64 .i64 rfl Tryz.underlying23 Tryz.underlying3 infoE rfl (by decide) ⟨g, 0, none⟩ i cap _ (n + 1 - i) rfl (xs.take (i * 1)) (by have := Hxl.out; simp; omega) rfl rfl Hx.out (by omega) (by omega) (by omega) (by omega) ?_; intro w1 G cur1 k1 k2 k3 k4 k5 k6 k7; rw [hik.out] at k4 ⊢; clear tok1 _t; unfold maxLen at k5; have k5' : (G : Int) <= 9223372036854775807 := (by omega); have k8 : ¬ (G = i) := (by omega); have k9 : (n : Int) + 1 <= (G : Int) := (by omega); have K1 := hid k1; clear k1; have K2 := hid k2; clear k2; have K3 := hid k3; clear k3; have K6 := hid k6; clear k6; have K7 : Hid (w1.heap.size = w.heap.size + 1) := k7; clear k7))
  | (have _t := tok2; have _k := K1; (refine wpList_copyK _ rfl _ _ 23 23 27 rfl 1 w.heap.size (i) (n + 1 - i) (G - i) (some ⟨vb, 0, none⟩) 1 1 cur1 27 vs rfl rfl Tryz.underlying23 sizeE K1.out (by rw [Hvl.out, show Nat.min 1 (n + 1 - i) = 1 from Nat.min_eq_left (by omega)]) (fun j u hu => ⟨_, rfl, by
     rw [addrP, Nat.zero_add, World.cell?_of_block (w := w) (a := ⟨vb, j, none⟩) (K6.out.block vb hvbl (by simp)), cell_of Hv.out]; exact hu⟩) (by rw [Hvl.out, K2.out]; omega) h1v ?_; intro w2 m1 m2 m3; clear tok2 _t; have M1 : Hid (w2.heap[w.heap.size]? = some (.cells (over cur1 (i) vs).toArray 27 (0, 0))) := m1; clear m1; have M2 : Hid (w1.grownBy w2 (some w.heap.size)) := m2; clear m2; have M3 : Hid (w2.heap.size = w1.heap.size) := m3; clear m3)))
 have hd0 : (i : Int) <= (n : Int) := by omega
 have hd0' : i <= n := by omega
 have hd1 : (0 : Int) <= (i : Int) + 1 := by omega
 have hd2 : (i : Int) + 1 <= (n : Int) + 1 := by omega
 have hd3 : ((i : Int) + 1).toNat = i + 1 := by omega
 have hd4 : ¬ (G = i + 1) := by omega
 have hd5 : (i : Int) + 1 <= (G : Int) := by omega
 have hd6 : IntKind.i64.wrap ((i : Int) + 1) = (i : Int) + 1 := by rw [IntKind.wrap_i64]; omega
 have Hsrc : Hid (∀ j u, (xs.drop (i * 1))[j]? = some u -> ∃ ad, (some ⟨g, i, none⟩ : Option Addr) = some ad /\ w2.drew.cell? (ad.add j) = some u) := fun j u hu => ⟨_, rfl, by
  have hgg : w2.heap[g]? = w.heap[g]? := (M2.out.block g (by have := K7.out; omega) (by simp; omega)).trans (K6.out.block g hgl (by simp))
  rw [addrP]
  show w2.cell? _ = _
  rw [World.cell?_of_block (w := w) (a := ⟨g, i + j, none⟩) hgg, cell_of Hcur.out]
  rw [List.getElem?_drop] at hu
  rw [<- Hct.out, List.getElem?_take] at hu
  split at hu
  ·simpa using hu
  ·cases hu⟩
 go_region_law (go_must (refine step_copyK rfl _ _ 23 23 27 rfl 1 w.heap.size (i + 1) (n + 1 - (i + 1)) (G - (i + 1)) (some ⟨g, i, none⟩) (n - i) (cap - i) (over cur1 (i) vs) 27 (xs.drop (i * 1)) (by simp [Act.eval, Act.put]) (by simp [Act.eval, Act.put]) Tryz.underlying23 sizeE M1.out (by
   have := Hxl.out
   rw [List.length_drop, show Nat.min (n - i) (n + 1 - (i + 1)) = n - i from by simp only [Nat.min_def]; split <;> omega]; omega) Hsrc.out (by
   have h1 := Hxl.out
   have h2 := K2.out
   have h3 := Hvl.out
   rw [over_length (by omega), List.length_drop]; omega) (fun u hu => h1x u (List.mem_of_mem_drop hu)) ?_; intro w3 p1 p2 p3; have P1 : Hid (w3.heap[w.heap.size]? = some (.cells (over (over cur1 (i) vs) (i + 1) (xs.drop (i * 1))).toArray 27 (0, 0))) := p1; clear p1; have P2 : Hid (w2.grownBy w3 (some w.heap.size)) := ⟨p2.os, p2.tape, p2.output, p2.size, p2.block⟩; clear p2; have P3 : Hid (w3.heap.size = w2.heap.size) := p3; clear p3))
 all_goals
  go_wp2
  go_ret
  have z1 := K7.out
  have z2 := M3.out
  have hgr : w.grownBy w3 (Value.slice (some ⟨g, 0, none⟩) n cap).ownBlock :=
   ⟨P2.out.os.trans (M2.out.os.trans K6.out.os), P2.out.tape.trans (M2.out.tape.trans K6.out.tape), P2.out.output.trans (M2.out.output.trans K6.out.output), by have := P3.out; omega, fun k hk _ =>
    (P2.out.block k (by omega) (by simp; omega)).trans ((M2.out.block k (by omega) (by simp; omega)).trans (K6.out.block k hk (by simp)))⟩
  have h1 := Hxl.out
  have h2 := K2.out
  have h3 := Hvl.out
  refine ⟨_, rfl, own_of_full P1.out hbase (by omega) (by unfold maxLen; omega) (by rw [over_length (by rw [over_length (by omega), List.length_drop]; omega), over_length (by omega)]; exact h2) ?_, hgr, .inr rfl⟩
  have := over_grow (cur := cur1) (xs := xs) (vs := vs) (i := i) (n := n) (k := 1) h1 K3.out (by omega) h3 (by omega)
  simpa using this
theorem overlaps_no (w : World) (vb b off lb cb : Nat) (hne : vb ≠ b) (vs cur : List Value) (t t' : TypeId) (hv : w.heap[vb]? = some (.cells vs.toArray t (0, 0))) (hb : w.heap[b]? = some (.cells cur.toArray t' (0, 0))) (hc : cur.length ≠ 0) :
  (callFunc 128 #[.slice (some ⟨vb, 0, none⟩) 1 1, .slice (some ⟨b, off, none⟩) lb cb]).run Tryz.prog w = .ok (.value (.bool false)) w := by
 rw [run_callFunc_extern Tryz.func128 (by kernel_rfl) (by kernel_rfl) (by kernel_rfl) (e := Extern.SlicesOverlaps.overlaps #[23, 23] #[4]) (by kernel_rfl),
  Lib.run_overlaps_apart w 23 4 27 Tryz.underlying23 1 (fun w => by obtain ⟨i0, hi, _, h1, _⟩ := infoE.parts; simp [sizeOf, typeInfo, hi, h1]) ⟨vb, 0, none⟩ ⟨b, off, none⟩ 1 1 lb cb hne t t' vs.length cur.length (by simp [World.shape?, hv]) (by simp [World.shape?, hb]) hc (by simp [World.frozen?, hv]) (by simp [World.frozen?, hv])]
 rfl
theorem ins_shift (w : World) (base : Nat) (a : Option Addr) (n cap vb i : Nat) (xs vs : List Value) (hown : w.ownsRow base 27 1 (.slice a n cap) n xs) (hv : w.heap[vb]? = some (.cells vs.toArray 27 (0, 0))) (hvl : vs.length = 1) (h1v : ∀ u ∈ vs, u.oneCell' = true) (h1x : ∀ u ∈ xs, u.oneCell' = true)
  (hn : n <= 1048576) (hbase : base <= w.heap.size) (hi : i < n) (hroom : n + 1 <= cap) (hne : (Value.slice a n cap).ownBlock ≠ some vb) :
  Calls Tryz.prog 120 #[.slice a n cap, .int .i64 (i : Int), .slice (some ⟨vb, 0, none⟩) 1 1] w (InsP w base (.slice a n cap) n i xs vs) := by
 obtain ⟨g, cur, rfl, hbg, hcur, hnc, hcm, hcl, hct⟩ := full_of_own hown (by omega)
 obtain ⟨-, hxl, -⟩ := row_cell hown
 have hgl : g < w.heap.size := (Array.getElem?_eq_some_iff.1 hcur).1
 have hvbl : vb < w.heap.size := (Array.getElem?_eq_some_iff.1 hv).1
 have hvg : vb ≠ g := fun e => hne (by rw [e]; rfl)
 have hov : ∀ lb cb, (callFunc 128 #[.slice (some ⟨vb, 0, none⟩) 1 1, .slice (some ⟨g, i + 1, none⟩) lb cb]).run Tryz.prog w = .ok (.value (.bool false)) w := fun lb cb => overlaps_no w vb g _ lb cb hvg vs cur _ _ hv hcur (by omega)
 unfold maxLen at hcm
 have hn' : (n : Int) <= 1048576 := by omega
 have hcm' : (cap : Int) <= 9223372036854775807 := by omega
 have hc1 : (n : Int) + 1 <= (cap : Int) := by omega
 have hc2 : (n : Int) <= (cap : Int) := by omega
 have hi1 : (i : Int) < (n : Int) := by omega
 have hi2 : ((i : Int) == (n : Int)) = false := by simp; omega
 have hi3 : ¬ ((i : Int) = (n : Int)) := by omega
 have hi4 : (i : Int) <= (cap : Int) := by omega
 have hi5 : ¬ (cap = i) := by omega
 have hi6 : ¬ (cap = i + 1) := by omega
 have hi7 : (i : Int) + 1 <= (n : Int) + 1 := by omega
 have hi8 : i <= n + 1 := by omega
 have hi9 : (i : Int) <= (n : Int) + 1 := by omega
 have hd1 : (0 : Int) <= (i : Int) + 1 := by omega
 have hd3 : ((i : Int) + 1).toNat = i + 1 := by omega
 have hd6 : IntKind.i64.wrap ((i : Int) + 1) = (i : Int) + 1 := by rw [IntKind.wrap_i64]; omega
 have Hsrc : Hid (∀ j u, (xs.drop (i * 1))[j]? = some u -> ∃ ad, (some ⟨g, i, none⟩ : Option Addr) = some ad /\ w.drew.cell? (ad.add j) = some u) := fun j u hu => ⟨_, rfl, by
  rw [addrP]
  show w.cell? _ = _
  rw [cell_of hcur]
  rw [List.getElem?_drop] at hu
  rw [<- hct, List.getElem?_take] at hu
  split at hu
  ·simpa using hu
  ·cases hu⟩
 have Hcur := hid hcur
 have Hv := hid hv
 have Hct := hid hct
 have Hxl := hid hxl
 have Hvl := hid hvl
 have Hcl : Hid (cur.length = cap * 1) := hcl
 have tok2 : True := trivial
 clear hown hcur hv hct hxl hvl hcl hne
 go_enter Tryz.func120, Tryz.ntmps120
 go_wp2_with (simp only [hov])
 go_region_law (go_must (refine step_copyK rfl _ _ 23 23 27 rfl 1 g (i + 1) (n + 1 - (i + 1)) (cap - (i + 1)) (some ⟨g, i, none⟩) (n + 1 - i) (cap - i) cur 27 (xs.drop (i * 1)) (by simp [Act.eval, Act.put]) (by simp [Act.eval, Act.put]) Tryz.underlying23 sizeE Hcur.out (by
   have := Hxl.out
   rw [List.length_drop, show Nat.min (n + 1 - i) (n + 1 - (i + 1)) = n - i from by simp only [Nat.min_def]; split <;> omega]; omega) Hsrc.out (by
   have h1 := Hxl.out
   have h2 := Hcl.out
   rw [List.length_drop]; omega) (fun u hu => h1x u (List.mem_of_mem_drop hu)) ?_; intro w2 p1 p2 p3; have M1 : Hid (w2.heap[g]? = some (.cells (over cur (i + 1) (xs.drop (i * 1))).toArray 27 (0, 0))) := p1; clear p1; have M2 : Hid (w.grownBy w2 (some g)) := ⟨p2.os, p2.tape, p2.output, p2.size, p2.block⟩; clear p2; have M3 : Hid (w2.heap.size = w.heap.size) := p3; clear p3))
 all_goals
  go_wp2_with (have _t := tok2; (refine wpList_copyK _ rfl _ _ 23 23 27 rfl 1 g (i) (n + 1 - i) (cap - i) (some ⟨vb, 0, none⟩) 1 1 (over cur (i + 1) (xs.drop (i * 1))) 27 vs rfl rfl Tryz.underlying23 sizeE M1.out (by rw [Hvl.out, show Nat.min 1 (n + 1 - i) = 1 from Nat.min_eq_left (by omega)]) (fun j u hu => ⟨_, rfl, by
     rw [addrP, Nat.zero_add, World.cell?_of_block (w := w) (a := ⟨vb, j, none⟩) (M2.out.block vb hvbl (by simp; omega)), cell_of Hv.out]; exact hu⟩) (by
      have h1 := Hxl.out
      have h2 := Hcl.out
      rw [Hvl.out, over_length (by rw [List.length_drop]; omega)]; omega) h1v ?_; intro w3 m1 m2 m3; clear tok2 _t; have P1 : Hid (w3.heap[g]? = some (.cells (over (over cur (i + 1) (xs.drop (i * 1))) (i) vs).toArray 27 (0, 0))) := m1; clear m1; have P2 : Hid (w2.grownBy w3 (some g)) := m2; clear m2; have P3 : Hid (w3.heap.size = w2.heap.size) := m3; clear m3))
  go_ret
  have z2 := M3.out
  have hgr : w.grownBy w3 (Value.slice (some ⟨g, 0, none⟩) n cap).ownBlock :=
   ⟨P2.out.os.trans M2.out.os, P2.out.tape.trans M2.out.tape, P2.out.output.trans M2.out.output, by have := P3.out; omega, fun k hk hne => (P2.out.block k (by omega) hne).trans (M2.out.block k hk hne)⟩
  have h1 := Hxl.out
  have h2 := Hcl.out
  have h3 := Hvl.out
  refine ⟨_, rfl, own_of_full P1.out hbg (by omega) (by unfold maxLen; omega) (by rw [over_length (by rw [over_length (by rw [List.length_drop]; omega)]; omega), over_length (by rw [List.length_drop]; omega)]; exact h2) ?_, hgr, .inl rfl⟩
  have := over_shift (cur := cur) (xs := xs) (vs := vs) (i := i) (n := n) (k := 1) Hct.out (by omega) h3 (by omega)
  simpa using this
theorem insert_any (w : World) (base : Nat) (a : Option Addr) (n cap vb i : Nat) (xs vs : List Value) (hown : w.ownsRow base 27 1 (.slice a n cap) n xs) (hv : w.heap[vb]? = some (.cells vs.toArray 27 (0, 0))) (hvl : vs.length = 1) (h1v : ∀ u ∈ vs, u.oneCell' = true) (h1x : ∀ u ∈ xs, u.oneCell' = true)
  (hn : n <= 1048576) (hbase : base <= w.heap.size) (hi : i <= n) (hne : (Value.slice a n cap).ownBlock ≠ some vb) :
  Calls Tryz.prog 120 #[.slice a n cap, .int .i64 (i : Int), .slice (some ⟨vb, 0, none⟩) 1 1] w (InsP w base (.slice a n cap) n i xs vs) := by
 by_cases hin : i = n
 ·subst hin
  exact ins_end w base a i cap vb xs vs hown hv hvl h1v hn hbase
 ·by_cases hr : n + 1 <= cap
  ·exact ins_shift w base a n cap vb i xs vs hown hv hvl h1v h1x hn hbase (by omega) hr hne
  ·exact ins_grow w base a n cap vb i xs vs hown hv hvl h1v h1x hn hbase (by omega) (by omega)
theorem delete_any (w : World) (B : Nat) (a : Option Addr) (n cap i : Nat) (xs : List Value) (hown : w.ownsRow B 27 1 (.slice a n cap) n xs) (h1x : ∀ u ∈ xs, u.oneCell' = true) (hn : n <= 1048576) (hi : i < n) :
  Calls Tryz.prog 170 #[.slice a n cap, .int .i64 (i : Int), .int .i64 ((i : Int) + 1)] w fun e w' => e = .returned (.slice a (n - 1) cap) /\ w'.ownsRow B 27 1 (.slice a (n - 1) cap) (n - 1) (xs.take (i * 1) ++ xs.drop ((i + 1) * 1)) /\ w.grownBy w' (Value.slice a n cap).ownBlock := by
 obtain ⟨g, cur, rfl, hbg, hcur, hnc, hcm, hcl, hct⟩ := full_of_own hown (by omega)
 obtain ⟨-, hxl, -⟩ := row_cell hown
 unfold maxLen at hcm
 have hn' : (n : Int) <= 1048576 := by omega
 have hcm' : (cap : Int) <= 9223372036854775807 := by omega
 have hc2 : (n : Int) <= (cap : Int) := by omega
 have hi1 : (i : Int) + 1 <= (n : Int) := by omega
 have hi2 : ((i : Int) == (i : Int) + 1) = false := by simp; omega
 have hi3 : (i : Int) <= (n : Int) := by omega
 have hi4 : (i : Int) <= (cap : Int) := by omega
 have hi5 : ¬ (cap = i) := by omega
 have hi6 : (0 : Int) <= (i : Int) + 1 := by omega
 have hi7 : ((i : Int) + 1).toNat = i + 1 := by omega
 have hi8 : (i : Int) <= (i : Int) + 1 := by omega
 have hi9 : (0 : Int) <= (i : Int) := by omega
 have hi10 : (i : Int) + 1 <= (cap : Int) := by omega
 have hi11 : i <= cap := by omega
 have hmm : Hid (i + (n - (i + 1)) = n - 1) := by show _ = _; omega
 obtain ⟨A, hA, HA⟩ : ∃ A, (if cap = i + 1 then some (⟨g, 0, none⟩ : Addr) else some ⟨g, i + 1, none⟩) = some A /\ Hid (∀ j u, (xs.drop ((i + 1) * 1))[j]? = some u -> w.drew.cell? (A.add j) = some u) := by
  by_cases e : cap = i + 1
  ·refine ⟨_, if_pos e, fun j u hu => ?_⟩
   rw [List.drop_of_length_le (by omega)] at hu
   simp at hu
  ·refine ⟨_, if_neg e, fun j u hu => ?_⟩
   rw [addrP]
   show w.cell? _ = _
   rw [cell_of hcur]
   rw [List.getElem?_drop] at hu
   rw [<- hct, List.getElem?_take] at hu
   split at hu
   ·simpa using hu
   ·cases hu
 have Hcur : Hid (w.heap[g]? = some (.cells cur.toArray 27 (0, 0))) := hcur
 have Hct : Hid (cur.take (n * 1) = xs) := hct
 have Hxl : Hid (xs.length = n * 1) := hxl
 have Hcl : Hid (cur.length = cap * 1) := hcl
 have tok1 : True := trivial
 clear hown hcur hct hxl hcl
 go_enter Tryz.func170, Tryz.ntmps170
 go_wp2
 go_region_law (have _t := tok1; go_must (refine step_moveK rfl _ _ 23 27 rfl Tryz.underlying23 infoE g i cap A (n - (i + 1)) (cap - (i + 1)) cur (xs.drop ((i + 1) * 1)) 27 (by simp [Act.eval, Act.put]) (by simp [Act.eval, Act.put]) Hcur.out (by have := Hxl.out; rw [List.length_drop]; omega) HA.out (fun u hu => h1x u (List.mem_of_mem_drop hu)) (by omega) Hcl.out ?_; intro w2 p1 p2 p3; rw [hmm.out]; have M1 : Hid (w2.heap[g]? = some (.cells (over cur (i * 1) (xs.drop ((i + 1) * 1))).toArray 27 (0, 0))) := p1; clear p1; have M2 : Hid (w.grownBy w2 (some g)) := ⟨p2.os, p2.tape, p2.output, p2.size, p2.block⟩; clear p2; have M3 : Hid (w2.heap.size = w.heap.size) := p3; clear p3 tok1 _t))
 all_goals
  have hd1 : ((n - 1 : Nat) : Int) <= (n : Int) := by omega
  have hd2 : ¬ (cap = n - 1) := by omega
  have hd3 : n - 1 <= n := by omega
  have hd4 : n <= cap := by omega
  have tok2 : True := trivial
  have Hov : Hid ((over cur (i * 1) (xs.drop ((i + 1) * 1))).length = cap * 1) := by
   show _ = _
   have h1 := Hxl.out
   have h2 := Hcl.out
   rw [over_length (by rw [List.length_drop]; omega), h2]
  go_wp2_with (have _t := tok2; have _m := M1; (refine wpList_clearK _ rfl _ 23 27 rfl Tryz.underlying23 infoE rfl (by intro u hu; simp [Value.cells] at hu; subst hu; rfl) (by decide) g (n - 1) (n - (n - 1)) (cap - (n - 1)) (over cur (i * 1) (xs.drop ((i + 1) * 1))) 27 rfl M1.out (by omega) (by rw [Hov.out]; omega) ?_; intro w3 zs q0 q1 q2 q3; clear tok2 _t _m))
  go_ret
  have h1 := Hxl.out
  have h2 := Hcl.out
  have hzl : zs.length = 1 := by rw [q0, show n - (n - 1) = 1 by omega, Nat.one_mul]
  refine ⟨rfl, own_of_full q1 hbg (by omega) (by unfold maxLen; omega) (by rw [over_length (by rw [Hov.out]; omega), Hov.out]) ?_, ⟨q2.os.trans M2.out.os, q2.tape.trans M2.out.tape, q2.output.trans M2.out.output, by have := M3.out; omega, fun k hk hne => (q2.block k (by have := M3.out; omega) hne).trans (M2.out.block k hk hne)⟩⟩
  simpa using over_del (cur := cur) (xs := xs) (zs := zs) (i := i) (n := n) (k := 1) Hct.out hi hzl (by omega)
end Go.Proofs.YtjkgjckkglfokaaGreat.Gr.H
/- link and unlink of the program: a handle put into a list, and taken out. -/
namespace Go.Proofs.YtjkgjckkglfokaaGreat.Gr
open Go.RowKit
set_option linter.unusedVariables false
set_option linter.unusedSimpArgs false
set_option maxRecDepth 100000
set_option maxHeartbeats 2000000
structure ListAt (w : World) (ro : Nat -> Nat) (db : Nat) (D : Dc) (p b o : Nat) (la : Option Addr) (lc : Nat) : Prop where
 cell : w.cell? ⟨b, o, none⟩ = some (.slice la (lst D p).length lc)
 fz : w.frozen? ⟨b, o, none⟩ = false
 own : w.ownsRow 0 27 1 (.slice la (lst D p).length lc) (lst D p).length (hvals (lst D p))
 rob : ro b ≠ 0
 lt : b < w.heap.size
 ne : ∀ k, (Value.slice la (lst D p).length lc).ownBlock = some k -> k ≠ b /\ ro k ≠ 0
 put : ∀ w' l' a' c', w.grownBy w' (Value.slice la (lst D p).length lc).ownBlock -> w'.ownsRow 0 27 1 (.slice a' l'.length c') l'.length (hvals l') -> (∀ k, (Value.slice a' l'.length c').ownBlock = some k -> (Value.slice la (lst D p).length lc).ownBlock = some k \/ w.heap.size <= k) ->
  ∃ ro', PDoc (w'.setCell ⟨b, o, none⟩ (.slice a' l'.length c')) ro' db (setL D p l') /\ ∀ k, ro' k ≠ 0 -> ro k ≠ 0 \/ w.heap.size <= k
def ListP (w : World) (b o : Nat) (e : Ending) (w' : World) : Prop := e = .returned (.pointer (some ⟨b, o, none⟩)) /\ Below w.heap.size w w'
theorem list_at {w : World} {ro : Nat -> Nat} {db : Nat} {D : Dc} (hd : PDoc w ro db D) (hf : Fits D) {p : Nat} (hpl : p < 18446744073709551616) (hp : p = 0 \/ ∃ s, sl D p = some s) :
  ∃ b o la lc, ListAt w ro db D p b o la lc /\ ∀ W, Below w.heap.size w W -> Calls Tryz.prog 119 #[.pointer (some ⟨db, 0, none⟩), .int .u64 (p : Int)] W (ListP W b o) := by
 obtain ⟨sa, scap, ra, rcap, L, h⟩ := hd
 by_cases h0 : p = 0
 ·subst h0
  have hl : lst D 0 = D.roots := by simp [lst]
  refine ⟨db, 1, ra, rcap, ⟨by rw [hl, h.head.cell]; rfl, h.head.frozen 1, by rw [hl]; exact h.roots, by rw [h.rdb]; omega, h.head.lt, fun k hk => ?_, fun w' l' a' c' h1 h2 h3 => ?_⟩, fun W hW => ?_⟩
  ·rw [hl] at hk
   have := h.rr k hk
   exact ⟨by rintro rfl; rw [h.rdb] at this; omega, by omega⟩
  ·rw [hl] at h1 h3
   refine ⟨_, ⟨_, _, _, _, _, (by rw [setL_zero]; exact h.newRoots h1 h2 h3)⟩, fun k hk => roN_from (by omega) h.rr h3 hk⟩
  ·clear h
   go_enter Tryz.func119, Tryz.ntmps119
   go_wp2
   go_ret
   exact ⟨rfl, Below.refl _ _⟩
 ·obtain ⟨s, hs⟩ := hp.resolve_left h0
  obtain ⟨i, ha, hi, -, -⟩ := sl_live hs
  obtain ⟨g, q, rfl, hg2, hq, hcap, hhd, hcl⟩ := h.slot hi
  have hl : lst D p = s.kids := by simp [lst, h0, hs]
  obtain ⟨v1, v2⟩ := h.vals i s q hi hq
  obtain ⟨ka, kc, e2⟩ := own_slice v2
  obtain ⟨c7, f7⟩ := hcl 7 _ rfl
  rw [e2] at c7
  refine ⟨g, i * 8 + 7, ka, kc, ⟨by rw [hl]; exact c7, f7, by rw [hl, <- e2]; exact v2, by omega, h.lt g (by omega), fun k hk => ?_, fun w' l' a' c' h1 h2 h3 => ?_⟩, fun W hW => ?_⟩
  ·rw [hl, <- e2] at hk
   have := h.rk i q k hq hk
   exact ⟨by rintro rfl; omega, by omega⟩
  ·rw [hl, <- e2] at h1 h3
   refine ⟨_, ⟨_, _, _, _, _, (by rw [setL_some h0 ha hi]; exact h.newKids hi hq h1 h2 h3)⟩, fun k hk => roN_from (by omega) (fun b hb => h.rk i q b hq hb) h3 hk⟩
  ·have hfd := find_some W _ db D p i (h.view.below hW) hf hpl ha g 0 scap ((hW.cell (p := ⟨db, 0, none⟩) h.head.lt).trans hhd)
   rw [Nat.zero_add] at hfd
   have hq0 : decide ((p : Int) = 0) = false := by simp; omega
   have hq1 : ¬ ((p : Int) = 0) := by omega
   have hq2 : ((p : Int) == 0) = false := by simp; omega
   clear h hcl v1 v2 c7 f7 hhd
   go_enter Tryz.func119, Tryz.ntmps119
   go_wp2_with fail
   refine hfd.mono ?_
   rintro e w1 ⟨rfl, hb⟩
   have HB := hid hb
   clear hfd hb
   go_wp2
   go_ret
   exact ⟨rfl, HB.out⟩
theorem ListAt.below {w W : World} {ro : Nat -> Nat} {db : Nat} {D : Dc} {p b o : Nat} {la : Option Addr} {lc : Nat} (h : ListAt w ro db D p b o la lc) (hb : Below w.heap.size w W) :
  W.cell? ⟨b, o, none⟩ = some (.slice la (lst D p).length lc) /\ W.frozen? ⟨b, o, none⟩ = false /\ W.ownsRow 0 27 1 (.slice la (lst D p).length lc) (lst D p).length (hvals (lst D p)) :=
 ⟨(hb.cell (p := ⟨b, o, none⟩) h.lt).trans h.cell, (hb.frozen (p := ⟨b, o, none⟩) h.lt).trans h.fz, own_of_block h.own (fun k hk => hb.block k (own_block_lt h.own k hk).2)⟩
def LinkP (w : World) (ro : Nat -> Nat) (db : Nat) (D' : Dc) (e : Ending) (w' : World) : Prop :=
 e = .returned (.tuple #[]) /\ Turn (fun b => ro b ≠ 0) w w' /\ ∃ ro', PDoc w' ro' db D' /\ ∀ b, ro' b ≠ 0 -> ro b ≠ 0 \/ w.heap.size <= b
theorem grown_of {a b c : World} {k : Option Nat} (h : Below a.heap.size a b) (g : b.grownBy c k) : a.grownBy c k :=
 ⟨g.os.trans h.os, g.tape.trans h.tape, g.output.trans h.output, Nat.le_trans h.size g.size, fun j hj hne => (g.block j (Nat.lt_of_lt_of_le hj h.size) hne).trans (h.block j hj)⟩
theorem ListAt.stored {w X Y : World} {ro : Nat -> Nat} {db : Nat} {D : Dc} {p b o : Nat} {la : Option Addr} {lc : Nat} (h : ListAt w ro db D p b o la lc) (hb : Below w.heap.size w X) {l' : List Nat} {v : Value} (hv : ∃ a c, v = .slice a l'.length c) (hg : X.grownBy Y (Value.slice la (lst D p).length lc).ownBlock) (hown : Y.ownsRow 0 27 1 v l'.length (hvals l'))
  (hk : ∀ k, v.ownBlock = some k -> (Value.slice la (lst D p).length lc).ownBlock = some k \/ X.heap.size <= k) : LinkP w ro db (setL D p l') (.returned (.tuple #[])) (Y.setCell ⟨b, o, none⟩ v) := by
 obtain ⟨a, c, rfl⟩ := hv
 have hG := grown_of hb hg
 obtain ⟨ro', h1, h2⟩ := h.put Y l' a c hG hown (fun k hk' => (hk k hk').imp id (fun h => Nat.le_trans hb.size h))
 refine ⟨rfl, ?_, ro', h1, h2⟩
 refine Turn.setCell (A := fun b => ro b ≠ 0) ⟨hG.os, hG.tape, hG.output, hG.size, fun k hk' hne => hG.block k hk' (fun e => hne (h.ne k e.symm).2)⟩ (p := ⟨b, o, none⟩) h.rob _
theorem hvals_take (l : List Nat) (k : Nat) : hvals (l.take k) = (hvals l).take k := by simp [hvals]
theorem hvals_drop (l : List Nat) (k : Nat) : hvals (l.drop k) = (hvals l).drop k := by simp [hvals]
theorem unlink_any (w : World) (ro : Nat -> Nat) (db : Nat) (D : Dc) (n : Nat) (s : Sl) (hd : PDoc w ro db D) (hw : WF D) (hs : sl D n = some s) :
  Calls Tryz.prog 163 #[.pointer (some ⟨db, 0, none⟩), .int .u64 (n : Int)] w (LinkP w ro db (outD D n s)) := by
 obtain ⟨hnl, _, i, ha, hi, _⟩ := hw.lt hs
 have hmem := hw.up n s hs
 obtain ⟨k, hk, hkn, hkl⟩ := idxH_mem hmem
 have hpp : s.parent = 0 \/ ∃ q, sl D s.parent = some q := by
  obtain ⟨lv, hl⟩ := hw.lev
  exact (dep_par hl hs).2
 have hpl : s.parent < 18446744073709551616 := by
  rcases hpp with e | ⟨q, e⟩
  ·omega
  ·exact (hw.lt e).1
 obtain ⟨b, o, la, lc, hla, hlc⟩ := list_at hd hw.fits hpl hpp
 have hll := lst_len hw hpp
 obtain ⟨sa, scap, ra, rcap, L, hpd⟩ := hd
 obtain ⟨g, q, rfl, hg2, hq, hcap, hhd, hcl⟩ := hpd.slot hi
 have hfd := find_some w _ db D n i hpd.view hw.fits hnl ha g 0 scap hhd
 rw [Nat.zero_add] at hfd
 have hgl := hpd.lt g (by omega)
 obtain ⟨c6, f6⟩ := hcl 6 _ rfl
 have HO : Hid (outD D n s = setL D s.parent ((lst D s.parent).take k ++ (lst D s.parent).drop (k + 1))) := by
  show _ = _
  unfold outD
  rw [hk]
  simp
 rw [HO.out]
 have HLA := hid hla
 have Hk := hid hk
 have HLC := hid hlc
 have hb1 := hvals_one (lst D s.parent)
 have hvl := hvals_length (lst D s.parent)
 clear hpd hla hk hlc hcl hhd hkn hmem hs
 go_enter Tryz.func163, Tryz.ntmps163
 go_wp2_with fail
 refine hfd.mono ?_
 rintro e w1 ⟨rfl, hb⟩
 have c6' : w1.cell? ⟨g, i * 8 + 6, none⟩ = some (.int .u64 (s.parent : Int)) := (hb.cell (p := ⟨g, i * 8 + 6, none⟩) hgl).trans c6
 have HB1 := hid hb
 have hl1 := HLC.out w1 hb
 clear hfd hb c6
 go_wp2_with fail
 refine hl1.mono ?_
 rintro e w2 ⟨rfl, hb2⟩
 have HB2 := hid (HB1.out.trans (hb2.mono HB1.out.size))
 obtain ⟨d1, d2, d3⟩ := HLA.out.below HB2.out
 obtain ⟨ha2, hc2, e2, hc3, hat⟩ := hands_row (R := fun _ => True) d3 (fun _ _ => trivial)
 cases e2
 have hix := index_any w2 _ la (lst D s.parent) lc n hat (by omega) (k : Int) Hk.out
 have hdel := H.delete_any w2 0 la (lst D s.parent).length lc k (hvals (lst D s.parent)) d3 hb1 (by omega) hkl
 have HD3 := hid d3
 have Hat := hid hat
 have hk8 : (k : Int) < 4096 := by omega
 clear hl1 hb2 d3 hat
 go_wp2_with fail
 refine hix.mono ?_
 rintro e w2' ⟨rfl, rfl⟩
 clear hix
 go_wp2_with fail
 refine hdel.mono ?_
 rintro e w3 ⟨rfl, k1, k2⟩
 have hblt := HLA.out.lt
 have hbn : (Value.slice la (lst D s.parent).length lc).ownBlock ≠ some b := fun e => (HLA.out.ne b e).1 rfl
 have e3 : w3.cell? ⟨b, o, none⟩ = some (.slice la (lst D s.parent).length lc) := (World.cell?_of_block (w := w2') (a := ⟨b, o, none⟩) (k2.block b (Nat.lt_of_lt_of_le hblt HB2.out.size) (fun e => hbn e.symm))).trans d1
 have f3 : w3.frozen? ⟨b, o, none⟩ = false := (World.frozen?_of_block (w := w2') (a := ⟨b, o, none⟩) (k2.block b (Nat.lt_of_lt_of_le hblt HB2.out.size) (fun e => hbn e.symm))).trans d2
 have HK1 : Hid (w3.ownsRow 0 27 1 (.slice la ((lst D s.parent).length - 1) lc) ((lst D s.parent).length - 1) (hvals ((lst D s.parent).take k ++ (lst D s.parent).drop (k + 1)))) := by
  show World.ownsRow _ _ _ _ _ _ _
  rw [hvals_append, hvals_take, hvals_drop]
  simpa using k1
 have HK2 := hid k2
 have HLn : Hid (((lst D s.parent).take k ++ (lst D s.parent).drop (k + 1)).length = (lst D s.parent).length - 1) := by show _ = _; simp; omega
 have HBK : Hid (∀ j, (Value.slice la ((lst D s.parent).length - 1) lc).ownBlock = some j -> (Value.slice la (lst D s.parent).length lc).ownBlock = some j \/ w2'.heap.size <= j) := fun j hj => .inl (by
  cases la with
  | none => exact hj
  | some ad => exact hj)
 clear hdel k1 k2 hbn
 go_wp2
 go_end0
 have h1 := HK1.out
 rw [<- HLn.out] at h1
 have h2 := HBK.out
 rw [<- HLn.out] at h2 ⊢
 exact HLA.out.stored HB2.out ⟨_, _, rfl⟩ HK2.out h1 h2
theorem link_first (w : World) (ro : Nat -> Nat) (db : Nat) (D : Dc) (n a p : Nat) (hd : PDoc w ro db D) (hf : Fits D) (hal : a < 18446744073709551616) (hpl : p < 18446744073709551616) (hpp : p = 0 \/ ∃ s, sl D p = some s) (hll : (lst D p).length <= 4096) (har : arD D 1 a = p) :
  Calls Tryz.prog 92 #[.pointer (some ⟨db, 0, none⟩), .int .u64 (n : Int), .int .i64 1, .int .u64 (a : Int)] w (LinkP w ro db (setL D p (ins (lst D p) 0 n))) := by
 obtain ⟨b, o, la, lc, hla, hlc⟩ := list_at hd hf hpl hpp
 have har' := around_any w _ db D 1 a hd.view hf hal (fun h => by rcases h with h | h <;> cases h)
 rw [har] at har'
 have HLA : Hid (ListAt w ro db D p b o la lc) := hla
 have HLC : Hid (∀ W, Below w.heap.size w W -> Calls Tryz.prog 119 #[.pointer (some ⟨db, 0, none⟩), .int .u64 (p : Int)] W (ListP W b o)) := hlc
 have hb1 := hvals_one (lst D p)
 have hvl := hvals_length (lst D p)
 clear hla hlc hd har
 go_enter Tryz.func92, Tryz.ntmps92
 go_wp2_with fail
 refine har'.mono ?_
 rintro e w1 ⟨rfl, hb⟩
 have HB1 : Hid (Below w.heap.size w w1) := hb
 have hl1 := HLC.out w1 hb
 clear har' hb
 go_wp2_with fail
 refine hl1.mono ?_
 rintro e w2 ⟨rfl, hb2⟩
 have HB2 : Hid (Below w.heap.size w w2) := HB1.out.trans (hb2.mono HB1.out.size)
 obtain ⟨d1, d2, d3⟩ := HLA.out.below HB2.out
 have hll' : ((lst D p).length : Int) <= 4096 := by omega
 have hbl : b < w2.heap.size := Nat.lt_of_lt_of_le HLA.out.lt HB2.out.size
 have hX : (w2.alloc (.cells #[.int .u64 (n : Int)] 27)).heap[w2.heap.size]? = some (.cells [.int .u64 (n : Int)].toArray 27 (0, 0)) := heap_alloc_new w2 _
 have hins := H.insert_any (w2.alloc (.cells #[.int .u64 (n : Int)] 27)) 0 la (lst D p).length lc w2.heap.size 0 (hvals (lst D p)) [.int .u64 (n : Int)] (own_of_block d3 (fun k hk => Below.heap_alloc _ _ _ (own_block_lt d3 k hk).2)) hX rfl (by intro u hu; simp at hu; subst hu; rfl) hb1 (by omega) (Nat.zero_le _) (by omega) (fun e => by have := (own_block_lt d3 _ e).2; omega)
 have HBX : Hid (Below w.heap.size w (w2.alloc (.cells #[.int .u64 (n : Int)] 27))) := HB2.out.alloc HB2.out.size _
 have hbn : (Value.slice la (lst D p).length lc).ownBlock ≠ some b := fun e => (HLA.out.ne b e).1 rfl
 have HFin : Hid (∀ e w4, H.InsP (w2.alloc (.cells #[.int .u64 (n : Int)] 27)) 0 (.slice la (lst D p).length lc) (lst D p).length 0 (hvals (lst D p)) [.int .u64 (n : Int)] e w4 -> ∃ va vc, e = .returned (.slice va ((lst D p).length + 1) vc) /\ w4.cell? ⟨b, o, none⟩ = some (.slice la (lst D p).length lc) /\ w4.frozen? ⟨b, o, none⟩ = false /\ LinkP w ro db (setL D p (ins (lst D p) 0 n)) (.returned (.tuple #[])) (w4.setCell ⟨b, o, none⟩ (.slice va ((lst D p).length + 1) vc))) := fun e w4 h => by
  obtain ⟨v, he, k1, k2, k3⟩ := h
  obtain ⟨va, vc, rfl⟩ := own_slice k1
  have hbk := k2.block b (by simp; omega) (fun e => hbn e.symm)
  have hlen : (ins (lst D p) 0 n).length = (lst D p).length + 1 := by simp [ins] <;> omega
  refine ⟨va, vc, he, (World.cell?_of_block (w := w2) (a := ⟨b, o, none⟩) (hbk.trans (Below.heap_alloc _ _ _ hbl))).trans d1, (World.frozen?_of_block (w := w2) (a := ⟨b, o, none⟩) (hbk.trans (Below.heap_alloc _ _ _ hbl))).trans d2, HLA.out.stored HBX.out ⟨va, vc, by rw [hlen]⟩ k2 ?_ (fun j hj => ?_)⟩
  ·rw [hlen, ins, hvals_append, hvals_append, hvals_take, hvals_drop]
   simpa [hvals] using k1
  ·rcases k3 with k3 | k3
   ·exact .inl (by rw [<- k3]; exact hj)
   ·rw [k3] at hj
    cases hj
    exact .inr (Nat.le_refl _)
 clear hl1 hb2 d2 d3 hX hbn
 go_wp2_with fail
 refine hins.mono ?_
 rintro e w4 h4
 obtain ⟨va, vc, rfl, c4, f4, h5⟩ := HFin.out e w4 h4
 have H5 : Hid (LinkP w ro db _ (.returned (.tuple #[])) (w4.setCell ⟨b, o, none⟩ (.slice va ((lst D p).length + 1) vc))) := h5
 clear hins h4 h5 HFin d1
 go_wp2
 go_end0
 exact H5.out
theorem link_last (w : World) (ro : Nat -> Nat) (db : Nat) (D : Dc) (n a p : Nat) (hd : PDoc w ro db D) (hf : Fits D) (hal : a < 18446744073709551616) (hpl : p < 18446744073709551616) (hpp : p = 0 \/ ∃ s, sl D p = some s) (hll : (lst D p).length <= 4096) (har : arD D 2 a = p) :
  Calls Tryz.prog 92 #[.pointer (some ⟨db, 0, none⟩), .int .u64 (n : Int), .int .i64 2, .int .u64 (a : Int)] w (LinkP w ro db (setL D p (ins (lst D p) (lst D p).length n))) := by
 obtain ⟨b, o, la, lc, hla, hlc⟩ := list_at hd hf hpl hpp
 have har' := around_any w _ db D 2 a hd.view hf hal (fun h => by rcases h with h | h <;> cases h)
 rw [har] at har'
 have HLA : Hid (ListAt w ro db D p b o la lc) := hla
 have HLC : Hid (∀ W, Below w.heap.size w W -> Calls Tryz.prog 119 #[.pointer (some ⟨db, 0, none⟩), .int .u64 (p : Int)] W (ListP W b o)) := hlc
 have hb1 := hvals_one (lst D p)
 have hvl := hvals_length (lst D p)
 clear hla hlc hd har
 go_enter Tryz.func92, Tryz.ntmps92
 go_wp2_with fail
 refine har'.mono ?_
 rintro e w1 ⟨rfl, hb⟩
 have HB1 : Hid (Below w.heap.size w w1) := hb
 have hl1 := HLC.out w1 hb
 clear har' hb
 go_wp2_with fail
 refine hl1.mono ?_
 rintro e w2 ⟨rfl, hb2⟩
 have HB2 : Hid (Below w.heap.size w w2) := HB1.out.trans (hb2.mono HB1.out.size)
 obtain ⟨d1, d2, d3⟩ := HLA.out.below HB2.out
 have hll' : ((lst D p).length : Int) <= 4096 := by omega
 have hbl : b < w2.heap.size := Nat.lt_of_lt_of_le HLA.out.lt HB2.out.size
 have hX : (w2.alloc (.cells #[.int .u64 (n : Int)] 27)).heap[w2.heap.size]? = some (.cells [.int .u64 (n : Int)].toArray 27 (0, 0)) := heap_alloc_new w2 _
 have hins := H.insert_any (w2.alloc (.cells #[.int .u64 (n : Int)] 27)) 0 la (lst D p).length lc w2.heap.size (lst D p).length (hvals (lst D p)) [.int .u64 (n : Int)] (own_of_block d3 (fun k hk => Below.heap_alloc _ _ _ (own_block_lt d3 k hk).2)) hX rfl (by intro u hu; simp at hu; subst hu; rfl) hb1 (by omega) (Nat.zero_le _) (by omega) (fun e => by have := (own_block_lt d3 _ e).2; omega)
 have HBX : Hid (Below w.heap.size w (w2.alloc (.cells #[.int .u64 (n : Int)] 27))) := HB2.out.alloc HB2.out.size _
 have hbn : (Value.slice la (lst D p).length lc).ownBlock ≠ some b := fun e => (HLA.out.ne b e).1 rfl
 have HFin : Hid (∀ e w4, H.InsP (w2.alloc (.cells #[.int .u64 (n : Int)] 27)) 0 (.slice la (lst D p).length lc) (lst D p).length (lst D p).length (hvals (lst D p)) [.int .u64 (n : Int)] e w4 -> ∃ va vc, e = .returned (.slice va ((lst D p).length + 1) vc) /\ w4.cell? ⟨b, o, none⟩ = some (.slice la (lst D p).length lc) /\ w4.frozen? ⟨b, o, none⟩ = false /\ LinkP w ro db (setL D p (ins (lst D p) (lst D p).length n)) (.returned (.tuple #[])) (w4.setCell ⟨b, o, none⟩ (.slice va ((lst D p).length + 1) vc))) := fun e w4 h => by
  obtain ⟨v, he, k1, k2, k3⟩ := h
  obtain ⟨va, vc, rfl⟩ := own_slice k1
  have hbk := k2.block b (by simp; omega) (fun e => hbn e.symm)
  have hlen : (ins (lst D p) (lst D p).length n).length = (lst D p).length + 1 := by simp [ins] <;> omega
  refine ⟨va, vc, he, (World.cell?_of_block (w := w2) (a := ⟨b, o, none⟩) (hbk.trans (Below.heap_alloc _ _ _ hbl))).trans d1, (World.frozen?_of_block (w := w2) (a := ⟨b, o, none⟩) (hbk.trans (Below.heap_alloc _ _ _ hbl))).trans d2, HLA.out.stored HBX.out ⟨va, vc, by rw [hlen]⟩ k2 ?_ (fun j hj => ?_)⟩
  ·rw [hlen, ins, hvals_append, hvals_append, hvals_take, hvals_drop]
   simpa [hvals] using k1
  ·rcases k3 with k3 | k3
   ·exact .inl (by rw [<- k3]; exact hj)
   ·rw [k3] at hj
    cases hj
    exact .inr (Nat.le_refl _)
 clear hl1 hb2 d2 d3 hX hbn
 go_wp2_with fail
 refine hins.mono ?_
 rintro e w4 h4
 obtain ⟨va, vc, rfl, c4, f4, h5⟩ := HFin.out e w4 h4
 have H5 : Hid (LinkP w ro db _ (.returned (.tuple #[])) (w4.setCell ⟨b, o, none⟩ (.slice va ((lst D p).length + 1) vc))) := h5
 clear hins h4 h5 HFin d1
 go_wp2
 go_end0
 exact H5.out
theorem link_before (w : World) (ro : Nat -> Nat) (db : Nat) (D : Dc) (n a p : Nat) (hd : PDoc w ro db D) (hf : Fits D) (hal : a < 18446744073709551616) (hpl : p < 18446744073709551616) (hpp : p = 0 \/ ∃ s, sl D p = some s) (hll : (lst D p).length <= 4096) (har : arD D 3 a = p) (hmem : a ∈ lst D p) (hsa : ∃ s, sl D a = some s) :
  Calls Tryz.prog 92 #[.pointer (some ⟨db, 0, none⟩), .int .u64 (n : Int), .int .i64 3, .int .u64 (a : Int)] w (LinkP w ro db (setL D p (ins (lst D p) (idxH (lst D p) a).toNat n))) := by
 obtain ⟨b, o, la, lc, hla, hlc⟩ := list_at hd hf hpl hpp
 obtain ⟨k, hk, hkn, hkl⟩ := idxH_mem hmem
 have Hk : Hid (idxH (lst D p) a = (k : Int)) := hk
 have e0 : (idxH (lst D p) a).toNat = k := by rw [hk]; simp
 rw [e0]
 clear hk e0
 have har' := around_any w _ db D 3 a hd.view hf hal (fun _ => hsa)
 rw [har] at har'
 have HLA : Hid (ListAt w ro db D p b o la lc) := hla
 have HLC : Hid (∀ W, Below w.heap.size w W -> Calls Tryz.prog 119 #[.pointer (some ⟨db, 0, none⟩), .int .u64 (p : Int)] W (ListP W b o)) := hlc
 have hb1 := hvals_one (lst D p)
 have hvl := hvals_length (lst D p)
 clear hla hlc hd har
 go_enter Tryz.func92, Tryz.ntmps92
 go_wp2_with fail
 refine har'.mono ?_
 rintro e w1 ⟨rfl, hb⟩
 have HB1 : Hid (Below w.heap.size w w1) := hb
 have hl1 := HLC.out w1 hb
 clear har' hb
 go_wp2_with fail
 refine hl1.mono ?_
 rintro e w2 ⟨rfl, hb2⟩
 have HB2 : Hid (Below w.heap.size w w2) := HB1.out.trans (hb2.mono HB1.out.size)
 obtain ⟨d1, d2, d3⟩ := HLA.out.below HB2.out
 have hll' : ((lst D p).length : Int) <= 4096 := by omega
 obtain ⟨ha2, hc2, e2, hc3, hat⟩ := hands_row (R := fun _ => True) d3 (fun _ _ => trivial)
 cases e2
 have hix := index_any w2 _ la (lst D p) lc a hat (by omega) (k : Int) Hk.out
 have hk8 : (k : Int) < 4096 := by omega
 clear hat
 have hbl : b < w2.heap.size := Nat.lt_of_lt_of_le HLA.out.lt HB2.out.size
 have hX : (w2.alloc (.cells #[.int .u64 (n : Int)] 27)).heap[w2.heap.size]? = some (.cells [.int .u64 (n : Int)].toArray 27 (0, 0)) := heap_alloc_new w2 _
 have hins := H.insert_any (w2.alloc (.cells #[.int .u64 (n : Int)] 27)) 0 la (lst D p).length lc w2.heap.size k (hvals (lst D p)) [.int .u64 (n : Int)] (own_of_block d3 (fun k hk => Below.heap_alloc _ _ _ (own_block_lt d3 k hk).2)) hX rfl (by intro u hu; simp at hu; subst hu; rfl) hb1 (by omega) (Nat.zero_le _) (by omega) (fun e => by have := (own_block_lt d3 _ e).2; omega)
 have HBX : Hid (Below w.heap.size w (w2.alloc (.cells #[.int .u64 (n : Int)] 27))) := HB2.out.alloc HB2.out.size _
 have hbn : (Value.slice la (lst D p).length lc).ownBlock ≠ some b := fun e => (HLA.out.ne b e).1 rfl
 have HFin : Hid (∀ e w4, H.InsP (w2.alloc (.cells #[.int .u64 (n : Int)] 27)) 0 (.slice la (lst D p).length lc) (lst D p).length k (hvals (lst D p)) [.int .u64 (n : Int)] e w4 -> ∃ va vc, e = .returned (.slice va ((lst D p).length + 1) vc) /\ w4.cell? ⟨b, o, none⟩ = some (.slice la (lst D p).length lc) /\ w4.frozen? ⟨b, o, none⟩ = false /\ LinkP w ro db (setL D p (ins (lst D p) k n)) (.returned (.tuple #[])) (w4.setCell ⟨b, o, none⟩ (.slice va ((lst D p).length + 1) vc))) := fun e w4 h => by
  obtain ⟨v, he, k1, k2, k3⟩ := h
  obtain ⟨va, vc, rfl⟩ := own_slice k1
  have hbk := k2.block b (by simp; omega) (fun e => hbn e.symm)
  have hlen : (ins (lst D p) k n).length = (lst D p).length + 1 := by simp [ins] <;> omega
  refine ⟨va, vc, he, (World.cell?_of_block (w := w2) (a := ⟨b, o, none⟩) (hbk.trans (Below.heap_alloc _ _ _ hbl))).trans d1, (World.frozen?_of_block (w := w2) (a := ⟨b, o, none⟩) (hbk.trans (Below.heap_alloc _ _ _ hbl))).trans d2, HLA.out.stored HBX.out ⟨va, vc, by rw [hlen]⟩ k2 ?_ (fun j hj => ?_)⟩
  ·rw [hlen, ins, hvals_append, hvals_append, hvals_take, hvals_drop]
   simpa [hvals] using k1
  ·rcases k3 with k3 | k3
   ·exact .inl (by rw [<- k3]; exact hj)
   ·rw [k3] at hj
    cases hj
    exact .inr (Nat.le_refl _)
 clear hl1 hb2 d2 d3 hX hbn
 go_wp2_with fail
 refine hix.mono ?_
 rintro e w2' ⟨rfl, rfl⟩
 clear hix
 go_wp2_with fail
 refine hins.mono ?_
 rintro e w4 h4
 obtain ⟨va, vc, rfl, c4, f4, h5⟩ := HFin.out e w4 h4
 have H5 : Hid (LinkP w ro db _ (.returned (.tuple #[])) (w4.setCell ⟨b, o, none⟩ (.slice va ((lst D p).length + 1) vc))) := h5
 clear hins h4 h5 HFin d1
 go_wp2
 go_end0
 exact H5.out
theorem link_after (w : World) (ro : Nat -> Nat) (db : Nat) (D : Dc) (n a p : Nat) (hd : PDoc w ro db D) (hf : Fits D) (hal : a < 18446744073709551616) (hpl : p < 18446744073709551616) (hpp : p = 0 \/ ∃ s, sl D p = some s) (hll : (lst D p).length <= 4096) (har : arD D 4 a = p) (hmem : a ∈ lst D p) (hsa : ∃ s, sl D a = some s) :
  Calls Tryz.prog 92 #[.pointer (some ⟨db, 0, none⟩), .int .u64 (n : Int), .int .i64 4, .int .u64 (a : Int)] w (LinkP w ro db (setL D p (ins (lst D p) ((idxH (lst D p) a).toNat + 1) n))) := by
 obtain ⟨b, o, la, lc, hla, hlc⟩ := list_at hd hf hpl hpp
 obtain ⟨k, hk, hkn, hkl⟩ := idxH_mem hmem
 have Hk : Hid (idxH (lst D p) a = (k : Int)) := hk
 have e0 : (idxH (lst D p) a).toNat = k := by rw [hk]; simp
 rw [e0]
 clear hk e0
 have har' := around_any w _ db D 4 a hd.view hf hal (fun _ => hsa)
 rw [har] at har'
 have HLA : Hid (ListAt w ro db D p b o la lc) := hla
 have HLC : Hid (∀ W, Below w.heap.size w W -> Calls Tryz.prog 119 #[.pointer (some ⟨db, 0, none⟩), .int .u64 (p : Int)] W (ListP W b o)) := hlc
 have hb1 := hvals_one (lst D p)
 have hvl := hvals_length (lst D p)
 clear hla hlc hd har
 go_enter Tryz.func92, Tryz.ntmps92
 go_wp2_with fail
 refine har'.mono ?_
 rintro e w1 ⟨rfl, hb⟩
 have HB1 : Hid (Below w.heap.size w w1) := hb
 have hl1 := HLC.out w1 hb
 clear har' hb
 go_wp2_with fail
 refine hl1.mono ?_
 rintro e w2 ⟨rfl, hb2⟩
 have HB2 : Hid (Below w.heap.size w w2) := HB1.out.trans (hb2.mono HB1.out.size)
 obtain ⟨d1, d2, d3⟩ := HLA.out.below HB2.out
 have hll' : ((lst D p).length : Int) <= 4096 := by omega
 obtain ⟨ha2, hc2, e2, hc3, hat⟩ := hands_row (R := fun _ => True) d3 (fun _ _ => trivial)
 cases e2
 have hix := index_any w2 _ la (lst D p) lc a hat (by omega) (k : Int) Hk.out
 have hk8 : (k : Int) < 4096 := by omega
 clear hat
 have hbl : b < w2.heap.size := Nat.lt_of_lt_of_le HLA.out.lt HB2.out.size
 have hX : (w2.alloc (.cells #[.int .u64 (n : Int)] 27)).heap[w2.heap.size]? = some (.cells [.int .u64 (n : Int)].toArray 27 (0, 0)) := heap_alloc_new w2 _
 have hins := H.insert_any (w2.alloc (.cells #[.int .u64 (n : Int)] 27)) 0 la (lst D p).length lc w2.heap.size (k + 1) (hvals (lst D p)) [.int .u64 (n : Int)] (own_of_block d3 (fun k hk => Below.heap_alloc _ _ _ (own_block_lt d3 k hk).2)) hX rfl (by intro u hu; simp at hu; subst hu; rfl) hb1 (by omega) (Nat.zero_le _) (by omega) (fun e => by have := (own_block_lt d3 _ e).2; omega)
 have HBX : Hid (Below w.heap.size w (w2.alloc (.cells #[.int .u64 (n : Int)] 27))) := HB2.out.alloc HB2.out.size _
 have hbn : (Value.slice la (lst D p).length lc).ownBlock ≠ some b := fun e => (HLA.out.ne b e).1 rfl
 have HFin : Hid (∀ e w4, H.InsP (w2.alloc (.cells #[.int .u64 (n : Int)] 27)) 0 (.slice la (lst D p).length lc) (lst D p).length (k + 1) (hvals (lst D p)) [.int .u64 (n : Int)] e w4 -> ∃ va vc, e = .returned (.slice va ((lst D p).length + 1) vc) /\ w4.cell? ⟨b, o, none⟩ = some (.slice la (lst D p).length lc) /\ w4.frozen? ⟨b, o, none⟩ = false /\ LinkP w ro db (setL D p (ins (lst D p) (k + 1) n)) (.returned (.tuple #[])) (w4.setCell ⟨b, o, none⟩ (.slice va ((lst D p).length + 1) vc))) := fun e w4 h => by
  obtain ⟨v, he, k1, k2, k3⟩ := h
  obtain ⟨va, vc, rfl⟩ := own_slice k1
  have hbk := k2.block b (by simp; omega) (fun e => hbn e.symm)
  have hlen : (ins (lst D p) (k + 1) n).length = (lst D p).length + 1 := by simp [ins] <;> omega
  refine ⟨va, vc, he, (World.cell?_of_block (w := w2) (a := ⟨b, o, none⟩) (hbk.trans (Below.heap_alloc _ _ _ hbl))).trans d1, (World.frozen?_of_block (w := w2) (a := ⟨b, o, none⟩) (hbk.trans (Below.heap_alloc _ _ _ hbl))).trans d2, HLA.out.stored HBX.out ⟨va, vc, by rw [hlen]⟩ k2 ?_ (fun j hj => ?_)⟩
  ·rw [hlen, ins, hvals_append, hvals_append, hvals_take, hvals_drop]
   simpa [hvals] using k1
  ·rcases k3 with k3 | k3
   ·exact .inl (by rw [<- k3]; exact hj)
   ·rw [k3] at hj
    cases hj
    exact .inr (Nat.le_refl _)
 clear hl1 hb2 d2 d3 hX hbn
 go_wp2_with fail
 refine hix.mono ?_
 rintro e w2' ⟨rfl, rfl⟩
 clear hix
 go_wp2_with fail
 refine hins.mono ?_
 rintro e w4 h4
 obtain ⟨va, vc, rfl, c4, f4, h5⟩ := HFin.out e w4 h4
 have H5 : Hid (LinkP w ro db _ (.returned (.tuple #[])) (w4.setCell ⟨b, o, none⟩ (.slice va ((lst D p).length + 1) vc))) := h5
 clear hins h4 h5 HFin d1
 go_wp2
 go_end0
 exact H5.out
end Go.Proofs.YtjkgjckkglfokaaGreat.Gr
