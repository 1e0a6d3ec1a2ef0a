/- The law WalkStops is walked. -/
import Derived.Test.YtjkgjckkglfokaaS01
import Derived.Test.YtjkgjckkglfokaaS02
import Derived.Test.YtjkgjckkglfokaaS03
import Derived.Test.YtjkgjckkglfokaaS15
namespace Go.Proofs.Ytjkgjckkglfokaa
open Go.RowKit Go.Shelf
set_option linter.unusedVariables false
set_option linter.unusedSimpArgs false
attribute [local go_sem] Oper.semAt_some

def xr (s x : Int) : Int := bits .xor .i64 x s
set_option maxRecDepth 100000 in
set_option maxHeartbeats 1000000 in
theorem xor_fn {kb : Nat} {s : Int} : IsFn Try.prog 24 #[.pointer (some ⟨kb, 0, none⟩)] (fun x => .int .i64 (xr s x)) (fun b => b = kb) (fun W => IsC W kb #[.int .i64 s]) := by
  refine ⟨enters_of Try.func24 (by kernel_rfl) rfl, fun W h b hb => hb ▸ h.lt, isC_stab, fun W x h => ?_⟩
  have c1 : W.cell? ⟨kb, 0, none⟩ = some (.int .i64 s) := h.cell 0
  have hl := h.lt
  clear h
  simp only [List.append_toArray, List.cons_append, List.nil_append]
  go_enter Try.func24, Try.ntmps24
  go_wp2
  go_ret
  exact ⟨rfl, Below.refl _ _⟩

/-- The list that the law makes each time. -/
theorem stops_list (W W1 W2 : World) (n ab xb : Nat) (s : Int) (hn : n < 256) (h1 : IsC W ab #[.int .i64 0]) (h2 : IsC W xb #[.int .i64 s]) (hx : ab ≠ xb)
    (e1 : (W.alloc (.cells #[.func (.func 21) #[] #[.pointer (some ⟨ab, 0, none⟩)]] 50)).alloc (.cells #[.func (.func 24) #[] #[.pointer (some ⟨xb, 0, none⟩)]] 68) = W1)
    (e2 : (W1.alloc (.cells #[.func (.func 65) #[] #[.pointer (some ⟨W.heap.size, 0, none⟩), .pointer (some ⟨W.heap.size + 1, 0, none⟩)]] 50)).alloc (.cells #[.int .i64 (n : Int)] 3) = W2) :
    Calls Try.prog 16 #[.func (.func 64) #[] #[.pointer (some ⟨W1.heap.size, 0, none⟩), .pointer (some ⟨W1.heap.size + 1, 0, none⟩)], .int .i64 300] W2 fun e Y => ∃ a c, e = .returned (.tuple #[.slice a n c, .int .i64 0]) ∧ Y.ownsRow W2.heap.size 3 1 (.slice a n c) n (ivs ((nums n).map (xr s))) ∧ Tn (fun b => b = ab) W Y ∧ ∃ k : Nat, k ≤ n ∧ IsC Y ab #[.int .i64 (k : Int)] := by
  have nn := fun (w : World) (o : Obj) => (Tn.refl (fun _ => False) w).alloc o
  have t1 : Tn (fun _ => False) W W1 := by rw [← e1]; exact (nn _ _).alloc _
  have t2 : Tn (fun _ => False) W1 W2 := by rw [← e2]; exact (nn _ _).alloc _
  have z1 : IsC W1 W.heap.size #[.func (.func 21) #[] #[.pointer (some ⟨ab, 0, none⟩)]] := by rw [← e1]; exact (isC_new _ _ _).tn (nn _ _) id
  have z2 : IsC W1 (W.heap.size + 1) #[.func (.func 24) #[] #[.pointer (some ⟨xb, 0, none⟩)]] := by
    have := isC_new (W.alloc (.cells #[.func (.func 21) #[] #[.pointer (some ⟨ab, 0, none⟩)]] 50)) #[.func (.func 24) #[] #[.pointer (some ⟨xb, 0, none⟩)]] 68
    rw [e1] at this
    simpa using this
  have z3 : IsC W2 W1.heap.size #[.func (.func 65) #[] #[.pointer (some ⟨W.heap.size, 0, none⟩), .pointer (some ⟨W.heap.size + 1, 0, none⟩)]] := by rw [← e2]; exact (isC_new _ _ _).tn (nn _ _) id
  have z4 : IsC W2 (W1.heap.size + 1) #[.int .i64 (n : Int)] := by
    have := isC_new (W1.alloc (.cells #[.func (.func 65) #[] #[.pointer (some ⟨W.heap.size, 0, none⟩), .pointer (some ⟨W.heap.size + 1, 0, none⟩)]] 50)) #[.int .i64 (n : Int)] 3
    rw [e2] at this
    simpa using this
  have l1 := h1.lt
  have l2 := h2.lt
  have hs1 := z2.lt
  have t02 : Tn (fun _ => False) W W2 := t1.trans t2 (fun _ _ h => h)
  have em64 := enters_of Try.func64 (by kernel_rfl) rfl
  rcases Nat.eq_zero_or_pos n with rfl | hn0
  · have hz := most_zero (sb := W1.heap.size) (mb := W1.heap.size + 1) (gf := 65) (lb := #[.pointer (some ⟨W.heap.size, 0, none⟩), .pointer (some ⟨W.heap.size + 1, 0, none⟩)]) (n := ((0 : Nat) : Int)) (by decide)
    refine (list_any hz em64 W2 ⟨z3, z4⟩ 300 (by decide) (by decide)).mono ?_
    rintro e Y ⟨tY, -, h | h⟩
    · obtain ⟨-, a, c, rfl, ho⟩ := h
      exact ⟨a, c, rfl, ho, (t02.mono (fun _ _ h => h.elim)).trans tY (fun _ _ h => h.elim), 0, Nat.le_refl _, h1.tn (t02.trans tY (fun _ _ h => h)) id⟩
    · exact absurd h.1 (by decide)
  · have hev := ever_seq (n := n) (ab := ab) (by omega)
    have hmp := map_seqG hev (enters_of Try.func21 (by kernel_rfl) rfl) (sb := W.heap.size) (mb := W.heap.size + 1) (f := xr s) (xor_fn (kb := xb) (s := s)) (by omega) (by omega) (fun b hb e => hx (by rw [← e, hb]))
    have hms := most_seqG hmp (enters_of Try.func65 (by kernel_rfl) rfl) (sb := W1.heap.size) (mb := W1.heap.size + 1) (n := n) (by omega) (by omega) (.inr (by rw [List.length_map, nums_length]; exact Nat.le_refl _)) (by omega) (by omega)
    rw [List.take_of_length_le (by rw [List.length_map, nums_length]; exact Nat.le_refl _)] at hms
    have hln : ((nums n).map (xr s)).length = n := by rw [List.length_map, nums_length]
    refine (list_anyG hms em64 W2 ⟨⟨h1.tn t02 id, z1.tn t2 id, z2.tn t2 id, h2.tn t02 id⟩, z3, z4⟩ 300 (by decide) (by rw [hln]; omega)).mono ?_
    rintro e Y ⟨tY, hq, h | h⟩
    · obtain ⟨-, a, c, rfl, ho⟩ := h
      rw [hln] at ho
      exact ⟨a, c, by rw [hln], ho, (t02.mono (fun _ _ h => h.elim)).trans tY (fun _ _ h => h), hq.1.1⟩
    · rw [hln] at h
      exact absurd h.1 (by omega)

set_option maxRecDepth 100000 in
set_option maxHeartbeats 4000000 in
theorem stops_walk (W : World) (n : Nat) (s : Int) (hn : n < 256) : Calls Try.prog 5 #[.int .u8 (n : Int), .int .i64 s] W fun e Y => e = .returned (.bool true) ∧ Below W.heap.size W Y := by
  have hmf : ∀ (fn : Fn) (first cap : Array Value) (w : World), (Instr.makeFunc fn first cap).run Try.prog w = .ok (.func fn first cap) w := fun _ _ _ _ => rfl
  have hn1 : ∀ b w, (Op.unary UnOp.not (.bool b)).run Try.prog w = .ok (.bool (!b)) w := fun b _ => by cases b <;> kernel_rfl
  have hnn : (n : Int) < 256 := by omega
  obtain ⟨W0, hW0⟩ : ∃ W0, W.alloc (.cells #[.int .i64 s] 3) = W0 := ⟨_, rfl⟩
  have HW0 : Hid (W.alloc (.cells #[.int .i64 s] 3) = W0) := hW0
  have hx0 : IsC W0 W.heap.size #[.int .i64 s] := by rw [← hW0]; exact isC_new _ _ _
  have hb0 : Below W.heap.size W W0 := by rw [← hW0]; exact (Below.refl _ _).alloc (Nat.le_refl _) _
  have H0 : Hid (IsC W0 W.heap.size #[.int .i64 s] ∧ Below W.heap.size W W0) := ⟨hx0, hb0⟩
  clear hW0 hx0 hb0
  go_enter Try.func5, Try.ntmps5
  go_wp2_with fail
  rw [HW0.out]
  refine Calls.mono (lives_any W0) ?_
  rintro e w1 ⟨rfl, hb1⟩
  obtain ⟨W2, hW2⟩ : ∃ W2, w1.alloc (.cells #[.int .i64 0] 3) = W2 := ⟨_, rfl⟩
  have HW2 : Hid (w1.alloc (.cells #[.int .i64 0] 3) = W2) := hW2
  have t1 : Tn (fun _ => False) W0 w1 := Tn.of_below hb1 (Nat.le_refl _)
  have t2 : Tn (fun _ => False) w1 W2 := by rw [← hW2]; exact (Tn.refl _ _).alloc _
  have H2 : Hid (IsC W2 W.heap.size #[.int .i64 s] ∧ (∃ k : Nat, IsC W2 w1.heap.size #[.int .i64 (k : Int)]) ∧ Below W.heap.size W W2 ∧ W.heap.size < w1.heap.size) := by
    refine ⟨(H0.out.1.tn t1 id).tn t2 id, ⟨0, by rw [← hW2]; exact isC_new _ _ _⟩, ?_, Nat.lt_of_lt_of_le H0.out.1.lt t1.size⟩
    exact (H0.out.2.trans (t1.below H0.out.2.size (fun _ h => h.elim))).trans (t2.below (Nat.le_trans H0.out.2.size t1.size) (fun _ h => h.elim))
  clear hW2 t1 t2 hb1
  obtain ⟨ab, hab⟩ : ∃ ab, w1.heap.size = ab := ⟨_, rfl⟩
  rw [hab] at H2
  have HAB : Hid (w1.heap.size = ab) := hab
  clear hab
  go_wp2_with fail
  rw [HW2.out, HAB.out]
  clear HW2 HAB HW0 H0
  go_loopw [7] (fun i wr => ∃ r : Nat, r ≤ 2 ∧ i = .int .i64 (r : Int) ∧ Hid (IsC wr W.heap.size #[.int .i64 s] ∧ (∃ k : Nat, IsC wr ab #[.int .i64 (k : Int)]) ∧ Below W.heap.size W wr ∧ W.heap.size < ab)) (fun i _ => 2 - (intOf i).toNat)
  case atStart => exact ⟨0, by omega, rfl, H2.out⟩
  case round =>
    clear H2
    obtain ⟨r, hr, rfl, HR⟩ := hrel
    obtain ⟨q1, ⟨k0, q2⟩, q3, q4⟩ := HR.out
    have c2 : wr.cell? ⟨ab, 0, none⟩ = some (.int .i64 (k0 : Int)) := q2.cell 0
    have f2 := q2.frozen 0
    have l2 := q2.lt
    by_cases hlt : r < 2
    · have hrl : (r : Int) < 2 := by omega
      obtain ⟨X0, hX0⟩ : ∃ X0, wr.setCell ⟨ab, 0, none⟩ (.int .i64 0) = X0 := ⟨_, rfl⟩
      have tX : Tn (fun b => b = ab) wr X0 := by rw [← hX0]; exact (Tn.refl (fun b => b = ab) wr).set (p := ⟨ab, 0, none⟩) (.inl rfl) _
      have y1 : IsC X0 W.heap.size #[.int .i64 s] := q1.tn tX (by omega)
      have y2 : IsC X0 ab #[.int .i64 0] := by
        obtain ⟨t, ht⟩ := q2
        exact ⟨t, by rw [← hX0]; simp [World.setCell, Array.getElem?_modify, ht]⟩
      have y3 : Below W.heap.size W X0 := q3.trans (tX.below q3.size (fun b (e : b = ab) => by omega))
      obtain ⟨X1, hX1⟩ : ∃ X1, (X0.alloc (.cells #[.func (.func 21) #[] #[.pointer (some ⟨ab, 0, none⟩)]] 50)).alloc (.cells #[.func (.func 24) #[] #[.pointer (some ⟨W.heap.size, 0, none⟩)]] 68) = X1 := ⟨_, rfl⟩
      obtain ⟨X2, hX2⟩ : ∃ X2, (X1.alloc (.cells #[.func (.func 65) #[] #[.pointer (some ⟨X0.heap.size, 0, none⟩), .pointer (some ⟨X0.heap.size + 1, 0, none⟩)]] 50)).alloc (.cells #[.int .i64 (n : Int)] 3) = X2 := ⟨_, rfl⟩
      have hm1 := mk_map X0 21 #[.pointer (some ⟨ab, 0, none⟩)] 24 #[.pointer (some ⟨W.heap.size, 0, none⟩)]
      rw [hX1] at hm1
      have hm2 := mk_most X1 65 #[.pointer (some ⟨X0.heap.size, 0, none⟩), .pointer (some ⟨X0.heap.size + 1, 0, none⟩)] (n : Int)
      rw [hX2] at hm2
      have hli := stops_list X0 X1 X2 n ab W.heap.size s hn y2 y1 (by omega) hX1 hX2
      have HX0 : Hid (wr.setCell ⟨ab, 0, none⟩ (.int .i64 0) = X0) := hX0
      have HY : Hid (IsC X0 W.heap.size #[.int .i64 s] ∧ Below W.heap.size W X0 ∧ W.heap.size < ab ∧ Below X0.heap.size X0 X2) := ⟨y1, y3, q4, by
        have nn := fun (w : World) (o : Obj) => (Tn.refl (fun _ => False) w).alloc o
        have : Tn (fun _ => False) X0 X2 := by rw [← hX2, ← hX1]; exact (((nn _ _).alloc _).alloc _).alloc _
        exact this.below (Nat.le_refl _) (fun _ h => h.elim)⟩
      clear hX0 hX1 hX2 tX y1 y2 y3 q1 q2 q3 q4 HR
      go_wp2_with fail
      rw [HX0.out]
      refine Calls.mono hm1 ?_
      rintro e w2 ⟨rfl, rfl⟩
      go_wp2_with fail
      refine Calls.mono hm2 ?_
      rintro e w3 ⟨rfl, rfl⟩
      go_wp2_with fail
      refine Calls.mono hli ?_
      rintro e Y ⟨a, c, rfl, ho, tY, k, hk, hkc⟩
      have hki : (k : Int) ≤ (n : Int) := by omega
      have k1 : Y.cell? ⟨ab, 0, none⟩ = some (.int .i64 (k : Int)) := hkc.cell 0
      have lab := hkc.lt
      have z1 : IsC Y W.heap.size #[.int .i64 s] := HY.out.1.tn tY (by have := HY.out.2.2.1; omega)
      have k2 : Y.cell? ⟨W.heap.size, 0, none⟩ = some (.int .i64 s) := z1.cell 0
      have lw := z1.lt
      have HZ : Hid (IsC Y W.heap.size #[.int .i64 s] ∧ (∃ k : Nat, IsC Y ab #[.int .i64 (k : Int)]) ∧ Below W.heap.size W Y ∧ W.heap.size < ab) := ⟨z1, ⟨k, hkc⟩, HY.out.2.1.trans (tY.below HY.out.2.1.size (fun b (e : b = ab) => by have := HY.out.2.2.1; omega)), HY.out.2.2.1⟩
      have HC : Hid (∀ j : Nat, j < n → ∃ g, a = some ⟨g, 0, none⟩ ∧ g < Y.heap.size ∧ Y.cell? ⟨g, j, none⟩ = some (.int .i64 (xr s (j : Int))) ∧ n ≤ c) := by
        intro j hj
        obtain ⟨h1, h2, h3⟩ := Gr.row_cell ho
        obtain ⟨g, e, -, h4, h5⟩ := h3 j (.int .i64 (xr s (j : Int))) (by rw [ivs, List.getElem?_map, List.getElem?_map, nums_get hj]; rfl)
        exact ⟨g, e, h4, h5, h1⟩
      clear ho tY hkc z1 hm1 hm2 hli c2 f2 l2 HX0
      have hnz : ((n : Int) != (n : Int)) = false := by simp
      go_wp2_with fail
      go_loopw [10] (fun i wr => ∃ j : Nat, j ≤ n ∧ i = .int .i64 (j : Int) ∧ Hid (Tn (fun _ => False) Y wr)) (fun i _ => n - (intOf i).toNat)
      case atStart => exact ⟨0, Nat.zero_le _, rfl, Tn.refl _ _⟩
      case round =>
        obtain ⟨j, hj, rfl, HT⟩ := hrel
        by_cases hjl : j < n
        · obtain ⟨g, rfl, hg1, hg2, hg3⟩ := HC.out j hjl
          have d1 : wr.cell? ⟨g, j, none⟩ = some (.int .i64 (xr s (j : Int))) := (World.cell?_of_block (w := Y) (a := ⟨g, j, none⟩) (HT.out.block g hg1 id)).trans hg2
          have d2 : wr.cell? ⟨W.heap.size, 0, none⟩ = some (.int .i64 s) := (World.cell?_of_block (w := Y) (a := ⟨W.heap.size, 0, none⟩) (HT.out.block _ lw id)).trans k2
          have hji : (j : Int) < (n : Int) := by omega
          have hbx : (xr s (j : Int) != bits .xor .i64 (j : Int) s) = false := by simp [xr]
          clear hg2 k1 k2
          go_wp2_with (go_region)
          go_roundw
          case rel => exact ⟨j + 1, by omega, by go_num, HT.out.drew⟩
          case measure => simp [intOf]; omega
        · obtain rfl : j = n := by omega
          have hji : ¬ (j : Int) < (j : Int) := by omega
          clear k1 k2
          go_wp2
          go_roundw
          case rel => exact ⟨r + 1, by omega, by go_num, HZ.out.1.tn HT.out id, (by obtain ⟨k, hk⟩ := HZ.out.2.1; exact ⟨k, hk.tn HT.out id⟩), HZ.out.2.2.1.trans (HT.out.below HZ.out.2.2.1.size (fun _ h => h.elim)), HZ.out.2.2.2⟩
          case measure => simp [intOf]; omega
    · obtain rfl : r = 2 := by omega
      have hrl : ¬ ((2 : Nat) : Int) < 2 := by omega
      clear q1 q2 c2 f2 l2
      go_wp2
      go_ret
      exact ⟨rfl, HR.out.2.2.1⟩

end Go.Proofs.Ytjkgjckkglfokaa
