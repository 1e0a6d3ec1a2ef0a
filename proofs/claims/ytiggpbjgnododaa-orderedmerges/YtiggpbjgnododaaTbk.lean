/- Back of a list of items, as it is ranged over: an iterator that ranges over another one. -/
import Derived.Test.YtiggpbjgnododaaTal
namespace Go.Proofs.Ytiggpbjgnododaa.T
open Go.RowKit Go.Shelf
set_option linter.unusedVariables false
attribute [local go_sem] Oper.semAt_some

def sn (s : List (Nat × (Int × Int))) : List (Int × Int) := s.map Prod.snd
theorem sn_snoc (s : List (Nat × (Int × Int))) (y : Nat × (Int × Int)) : sn (s ++ [y]) = sn s ++ [y.2] := by simp [sn]
theorem sn_pre {s t : List (Nat × (Int × Int))} (h : s <+: t) : sn s <+: sn t := h.map _

theorem snd_rev (L : List (Int × Int)) : sn (enum L).reverse = L.reverse := by
  unfold sn
  rw [List.map_reverse]
  congr 1
  apply List.ext_getElem?
  intro i
  simp only [enum, List.getElem?_map, List.getElem?_mapIdx, Option.map_map]
  cases L[i]? <;> rfl

theorem cell_at {w : World} {b : Nat} {cs : Array Value} {t : TypeId} (h : w.heap[b]? = some (.cells cs t (0, 0))) (j : Nat) : w.cell? ⟨b, j, none⟩ = cs[j]? := by simp [World.cell?, h]

set_option maxRecDepth 100000 in
set_option maxHeartbeats 2000000 in
theorem back_goes (N : Nat) (K M : Nat → Prop) (bp bq : Nat) (W : World) (B db g : Nat) (caps : Array Value) (L : List (Int × Int)) (a : Option Addr) (cap : Nat) (lent : Bool) (ed : Int) (lt : Int × Int → Int × Int → Bool) (dom : Int × Int → Prop) (x : Int × Int) (k : Nat)
    (hN : N + 2 ≤ W.heap.size) (hKN : ∀ k, K k → k < N) (hbpl : bp < W.heap.size) (hbql : bq < W.heap.size) (hbpd : bp ≠ db) (hbqd : bq ≠ db)
    (hbp : W.cell? ⟨bp, 0, none⟩ = some (.pointer (some ⟨db, 0, none⟩))) (hbq0 : W.cell? ⟨bq, 0, none⟩ = some (.int .i64 x.1)) (hbq1 : W.cell? ⟨bq, 1, none⟩ = some (.int .i64 x.2)) (h : LAt W B db g caps L a cap lent ed) (hM : M db) (hK : ∀ k, (Value.slice a L.length cap).ownBlock = some k → K k)
    (hless : ∀ W, LAt W B db g caps L a cap true ed → Less W g caps lt dom) (hx : dom x) (hL : ∀ y ∈ L, dom y) (hc : Cut lt L x k) :
    Iter N K M 100 #[.pointer (some ⟨bp, 0, none⟩), .pointer (some ⟨bq, 0, none⟩)] enc1 (L.take k).reverse W := by
  intro l J Jx hJ hJx hY h0
  obtain ⟨W0, hW0⟩ : ∃ W0, W.alloc (.cells #[.func (.yield l) #[] #[]] 83) = W0 := ⟨_, rfl⟩
  have hb0 : Below W.heap.size W W0 := by rw [← hW0]; exact bel1 W _
  have hs0 : W0.heap.size = W.heap.size + 1 := by rw [← hW0]; simp
  have hy0 : W0.heap[W.heap.size]? = some (.cells #[.func (.yield l) #[] #[]] 83 (0, 0)) := by rw [← hW0]; exact heap_alloc_new W _
  have hsplit := split_any W0 B db g caps L a cap lent ed lt dom x k (h.below hb0) hless hx hL hc
  have c1 : W0.cell? ⟨bp, 0, none⟩ = some (.pointer (some ⟨db, 0, none⟩)) := (hb0.cell (p := ⟨bp, 0, none⟩) hbpl).trans hbp
  have c2 : W0.cell? ⟨bq, 0, none⟩ = some (.int .i64 x.1) := (hb0.cell (p := ⟨bq, 0, none⟩) hbql).trans hbq0
  have c3 : W0.cell? ⟨bq, 1, none⟩ = some (.int .i64 x.2) := (hb0.cell (p := ⟨bq, 1, none⟩) hbql).trans hbq1
  have hl8 := h.len
  have hkl := hc.le
  have hdl := h.head.lt
  have hlk : (L.take k).length = k := by simp; omega
  have HJ : Hid (∀ s X Y, J s X → Stab (N + 2) M X Y → J s Y) := hJ
  have HJx : Hid (∀ s X Y, Jx s X → Stab (N + 2) M X Y → Jx s Y) := hJx
  have HY : Hid (∀ pre x X, pre ++ [x] <+: (L.take k).reverse → J pre X → YieldAt Fence.wide 0 Try.prog l (enc1 x) X fun e Y => (e = .returned (.bool true) ∧ J (pre ++ [x]) Y ∧ Kp N K (N + 2) X Y) ∨ (e = .returned (.bool false) ∧ Jx (pre ++ [x]) Y ∧ Kp N K (N + 2) X Y)) := hY
  have HJ0 : Hid (J [] W0) := hJ _ _ _ h0 (Stab.below hb0)
  have HK : Hid (∀ k, (Value.slice a L.length cap).ownBlock = some k → K k) := hK
  have HKN : Hid (∀ k, K k → k < N) := hKN
  have HW0 : Hid (W.alloc (.cells #[.func (.yield l) #[] #[]] 83) = W0) := hW0
  rw [← hW0] at c1 c2 c3
  clear hJ hJx hY h0 h hless hL hc hK hKN hW0 hb0 hbp hbq0 hbq1
  refine callsIn_of_wp_marks Try.func100 rfl trivial ?_ rfl
  simp only [Try.ntmps100, List.size_toArray, List.length_cons, List.length_nil, Nat.reduceAdd, Nat.reduceSub, Array.replicate_succ, Array.replicate_zero, List.push_toArray, List.append_toArray, List.nil_append, List.cons_append]
  gi_wp2_with fail
  rw [HW0.out]
  refine ⟨trivial, rfl, (callsIn_wide.2 hsplit).mono ?_⟩
  rintro e W2 ⟨A, rfl, q1, q2, q3⟩
  have hsb := sback_any W2 a k cap
  clear hsplit c1 c2 c3 HW0 q3
  gi_wp2_with fail
  refine ⟨trivial, rfl, (callsIn_wide.2 hsb).mono ?_⟩
  rintro e w' ⟨rfl, rfl⟩
  clear hsb
  gi_wp2_with fail
  obtain ⟨W3, hW3⟩ : ∃ W3, W2.alloc (.cells #[.slice a k cap] 31) = W3 := ⟨_, rfl⟩
  have hb3 : Below W2.heap.size W2 W3 := by rw [← hW3]; exact bel1 W2 _
  have hs3 : W3.heap.size = W2.heap.size + 1 := by rw [← hW3]; simp
  have hx3 : W3.heap[W2.heap.size]? = some (.cells #[.slice a k cap] 31 (0, 0)) := by rw [← hW3]; exact heap_alloc_new W2 _
  have hz2 := (q2 0 (fun b => b = db) rfl).size
  have hy3 : W3.heap[W.heap.size]? = some (.cells #[.func (.yield l) #[] #[]] 83 (0, 0)) := (hb3.block _ (by omega)).trans ((q2 0 (fun b => b = db) rfl).same hy0 (by omega) (.inr rfl))
  have hseg3 : Seg W3 (fun b => b = W2.heap.size ∨ b = W.heap.size ∨ K b) a (L.take k) := by
    have hi := (q1.below hb3).items
    intro i y hy
    have hy' : L[i]? = some y := by
      rw [List.getElem?_take] at hy
      split at hy
      · exact hy
      · cases hy
    obtain ⟨g', e, h1, h2, h3⟩ := hi i y hy'
    exact ⟨g', 0, e, .inr (.inr (HK.out g' (by rw [e]; rfl))), h1, by rw [Nat.zero_add]; exact h2, by rw [Nat.zero_add]; exact h3⟩
  have hJ3 : J [] W3 := HJ.out _ _ _ HJ0.out ((q2 _ _ hM).trans (Stab.below hb3))
  rw [hW3]
  clear hW3
  have eg : ∀ args w, (callFunc 114 args).run Try.prog w = .ok (.enter 114 args) w := enters_of Try.func114 (by kernel_rfl) rfl
  refine range_own (gf := 114) (lb := #[.pointer (some ⟨W2.heap.size, 0, none⟩)]) rfl eg (encs := enc2) (fun _ => rfl) (xs := (enum (L.take k)).reverse) (K := fun b => b = W2.heap.size ∨ b = W.heap.size ∨ K b) (M := fun _ => False)
    (by rintro b (e | e | e)
        · omega
        · omega
        · have := HKN.out b e; omega) (fun _ e => e.elim)
    (fun X hX hXs => backward_iter _ _ _ W2.heap.size cap a (L.take k) X (by omega) (by rw [hlk]; exact (hX.block _ (by omega)).trans hx3) (.inl (.inl rfl)) (hseg3.below hX))
    (fun pre X => J (sn pre) X ∧ X.heap[W2.heap.size]? = some (.cells #[.slice a k cap] 31 (0, 0)) ∧ X.heap[W.heap.size]? = some (.cells #[.func (.yield l) #[] #[]] 83 (0, 0)))
    (fun c pre X => c = .ret ∧ Jx (sn pre) X)
    (fun s X Y hI st => ⟨HJ.out _ _ _ hI.1 (st.mono (by omega) (fun _ e => e.elim)), st.same hI.2.1 (fun e => e) (.inr rfl), st.same hI.2.2 (fun e => e) (.inr rfl)⟩)
    (fun c s X Y hI st => ⟨hI.1, HJx.out _ _ _ hI.2 (st.mono (by omega) (fun _ e => e.elim))⟩)
    ⟨hJ3, hx3, hy3⟩
    (fun y a' X => ∃ xb, X.heap[xb]? = some (.cells #[.int .i64 y.2.1, .int .i64 y.2.2] 28 (0, 0)) ∧ a' = { tmps := #[.func (.yield l) #[] #[], .pointer (some ⟨bp, 0, none⟩), .pointer (some ⟨bq, 0, none⟩), .pointer (some ⟨W.heap.size, 0, none⟩), .slice a k cap, .slice A (L.length - k) (cap - k), undef, .pointer (some ⟨xb, 0, none⟩), .tuple #[.slice a k cap, .slice A (L.length - k) (cap - k)], .pointer (some ⟨db, 0, none⟩), .agg #[.int .i64 x.1, .int .i64 x.2], .tuple #[.slice a k cap, .slice A (L.length - k) (cap - k)], .slice a k cap, .slice A (L.length - k) (cap - k), .slice a k cap, .func (.func 114) #[] #[.pointer (some ⟨W2.heap.size, 0, none⟩)], .int .i64 (y.1 : Int), .agg #[.int .i64 y.2.1, .int .i64 y.2.2], undef, undef, undef, undef], defers := [] })
    (fun y a' X Y hX st => by obtain ⟨xb, h1, h2⟩ := hX; exact ⟨xb, st.same h1 (fun e => e) (.inr rfl), h2⟩)
    ?assign ?body ?done ?stop
  case assign =>
    rintro l2 pre y X Kc ⟨i1, i2, i3⟩ hK
    unfold enc2
    gi_wp2
    refine hK _ _ (Kp.of_turn ((Turn.refl (fun _ => False) X).alloc _) (fun _ _ e => e.elim)) ⟨HJ.out _ _ _ i1 (Stab.below (bel1 _ _)), (Below.heap_alloc _ _ _ (Array.getElem?_eq_some_iff.1 i2).1).trans i2, (Below.heap_alloc _ _ _ (Array.getElem?_eq_some_iff.1 i3).1).trans i3⟩ ⟨X.heap.size, heap_alloc_new X _, rfl⟩
  case body =>
    rintro l2 pre y a' X hpre ⟨i1, i2, i3⟩ ⟨xb, hxb, rfl⟩
    have hpx : sn pre ++ [y.2] <+: (L.take k).reverse := by
      rw [← sn_snoc, ← snd_rev]
      exact sn_pre hpre
    have hX := HY.out (sn pre) y.2 X hpx i1
    have k0 : X.cell? ⟨xb, 0, none⟩ = some (.int .i64 y.2.1) := cell_at hxb 0
    have k1 : X.cell? ⟨xb, 1, none⟩ = some (.int .i64 y.2.2) := cell_at hxb 1
    have k2 : X.cell? ⟨W.heap.size, 0, none⟩ = some (.func (.yield l) #[] #[]) := cell_at i3 0
    have I2 : Hid (X.heap[W2.heap.size]? = some (.cells #[.slice a k cap] 31 (0, 0))) := i2
    have I3 : Hid (X.heap[W.heap.size]? = some (.cells #[.func (.yield l) #[] #[]] 83 (0, 0))) := i3
    have HKp : Hid (∀ Y, Kp N K (N + 2) X Y → Kp W3.heap.size (fun b => b = W2.heap.size ∨ b = W.heap.size ∨ K b) W3.heap.size X Y ∧ Y.heap[W2.heap.size]? = some (.cells #[.slice a k cap] 31 (0, 0)) ∧ Y.heap[W.heap.size]? = some (.cells #[.func (.yield l) #[] #[]] 83 (0, 0))) := fun Y hk => by
      have j2 := hk.keep _ _ i2 (.inr (.inl ⟨by omega, _, _, _, rfl, by decide⟩))
      have j3 := hk.keep _ _ i3 (.inr (.inl ⟨by omega, _, _, _, rfl, by decide⟩))
      refine ⟨⟨hk.size, fun b o hb hc => ?_⟩, j2, j3⟩
      rcases hc with (e | e | e) | ⟨e, e2⟩ | ⟨e, e2⟩
      · subst e; rw [i2] at hb; cases hb; exact j2
      · subst e; rw [i3] at hb; cases hb; exact j3
      · exact hk.keep _ _ hb (.inl e)
      · exact hk.keep _ _ hb (.inr (.inl ⟨by omega, e2⟩))
      · exact hk.keep _ _ hb (.inr (.inr ⟨by omega, e2⟩))
    unfold enc1 at hX
    obtain ⟨fn, tmps, assign, body, hy2, hR⟩ := hX
    clear i1 i2 i3 hxb hpx
    gi_wp2
    refine ⟨rfl, RoundIn.mono (F := Fence.wide) hR ?_⟩
    rintro e Y (⟨rfl, hJ3, hk3⟩ | ⟨rfl, hJx3, hk3⟩)
    · have J3 : Hid (J (sn (pre ++ [y])) Y) := by rw [sn_snoc]; exact hJ3
      have K3 := HKp.out Y hk3
      have HK3 : Hid (Kp W3.heap.size (fun b => b = W2.heap.size ∨ b = W.heap.size ∨ K b) W3.heap.size X Y ∧ Y.heap[W2.heap.size]? = some (.cells #[.slice a k cap] 31 (0, 0)) ∧ Y.heap[W.heap.size]? = some (.cells #[.func (.yield l) #[] #[]] 83 (0, 0))) := K3
      clear hJ3 hk3 K3 hR
      gi_wp2
      exact ⟨HK3.out.1, J3.out, HK3.out.2⟩
    · have J3 : Hid (Jx (sn (pre ++ [y])) Y) := by rw [sn_snoc]; exact hJx3
      have K3 := HKp.out Y hk3
      have HK3 : Hid (Kp W3.heap.size (fun b => b = W2.heap.size ∨ b = W.heap.size ∨ K b) W3.heap.size X Y) := K3.1
      clear hJx3 hk3 K3 hR
      gi_wp2
      exact ⟨HK3.out, rfl, J3.out⟩
  case done =>
    rintro X ⟨i1, i2, i3⟩ hD
    have i4 : J (L.take k).reverse X := by rw [snd_rev] at i1; exact i1
    gi_wp2
    refine ⟨by simp, .inl ⟨_, _, rfl, run_takeDeferred hD, ?_⟩⟩
    exact ⟨_, results_none rfl _ _ _, ⟨_, rfl⟩, .inl (HJ.out _ _ _ i4 (Stab.put _ hD rfl (by omega)))⟩
  case stop =>
    rintro c pre X hpre ⟨rfl, i1⟩ hD
    have i2 : sn pre <+: (L.take k).reverse := by rw [← snd_rev]; exact sn_pre hpre
    gi_wp2
    refine ⟨by simp, .inl ⟨_, _, rfl, run_takeDeferred hD, ?_⟩⟩
    exact ⟨_, results_none rfl _ _ _, ⟨_, rfl⟩, .inr ⟨_, i2, HJx.out _ _ _ i1 (Stab.put _ hD rfl (by omega))⟩⟩

end Go.Proofs.Ytiggpbjgnododaa.T
