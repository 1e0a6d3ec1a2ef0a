/- ranged: its walk. -/
import Derived.Test.YtiggpbjgnododaaTrn
namespace Go.Proofs.Ytiggpbjgnododaa.T
open Go.RowKit Go.Shelf
set_option linter.unusedVariables false
attribute [local go_sem] Oper.semAt_some

theorem some_all {xs : List (Int × Int)} {stop : Int} (h : stop ≤ 0 ∨ (xs.length : Int) < stop) : someL xs stop = xs := by
  unfold someL
  rw [if_neg (by omega)]
theorem some_pre {xs pre : List (Int × Int)} {stop : Int} (h : pre <+: xs) (hs : (pre.length : Int) = stop) (h0 : pre ≠ []) : someL xs stop = pre := by
  obtain ⟨t, rfl⟩ := h
  have hp : 0 < pre.length := List.length_pos_iff.2 h0
  unfold someL
  subst hs
  cases t with
  | nil => rw [List.append_nil, if_neg (by omega)]
  | cons z t =>
    rw [if_pos ⟨by omega, by simp; omega⟩]
    simp

/-- What ranged answers and leaves. -/
def RngP (w : World) (B db : Nat) (L : List (Int × Int)) (a : Option Addr) (cap : Nat) (ed : Int) (l0 : Bool) (R : List (Int × Int)) (e : Ending) (w' : World) : Prop :=
  ∃ la lc, e = .returned (.slice la R.length lc) ∧ w'.ownsRow w.heap.size 28 2 (.slice la R.length lc) R.length (cellsOf R) ∧ (∃ lent, (l0 = true → lent = true) ∧ LAt w' B db 9 #[] L a cap lent ed) ∧ Turn (fun b => b = db) w w'

theorem RnSt.done {w X : World} {B db D : Nat} {L : List (Int × Int)} {a : Option Addr} {cap : Nat} {ed : Int} {l0 : Bool} {stop : Int} {pre : List (Int × Int)} (hd : db < w.heap.size) (hDw : w.heap.size + 4 ≤ D) (h : RnSt w B db L a cap ed l0 stop pre X) (hD : X.heap[D]? = some (.deferred (some []))) {la : Option Addr} {lc : Nat}
    (h1 : X.heap[w.heap.size + 3]? = some (.cells #[.slice la pre.length lc] 31 (0, 0))) (h2 : X.ownsRow (w.heap.size + 2) 28 2 (.slice la pre.length lc) pre.length (cellsOf pre)) (R : List (Int × Int)) (hR : R = pre) (e : Ending) (he : e = .returned (.slice la pre.length lc)) : RngP w B db L a cap ed l0 R e (X.putObj D (.deferred none)) := by
  subst hR he
  have st : Stab (w.heap.size) (fun k => k = db) X (X.putObj D (.deferred none)) := Stab.put _ hD rfl (by omega)
  obtain ⟨lent, hlm, h4⟩ := h.list
  obtain ⟨lent', hlm', h4'⟩ := h4.stab (fun _ e => e) st
  exact ⟨la, lc, rfl, own_base (own_stab (fun _ e => e) h2 (by omega) st) (fun k hk => by have := (own_block_lt h2 k hk).1; omega), ⟨lent', fun e => hlm' (hlm e), h4'⟩, turn_stab (fun _ e => e) (Nat.le_refl _) h.turn st⟩

set_option maxRecDepth 100000 in
set_option maxHeartbeats 4000000 in
theorem ranged_from (w : World) (B db : Nat) (L : List (Int × Int)) (a : Option Addr) (cap : Nat) (lent : Bool) (ed : Int) (x : Int × Int) (stop : Int) (h : LAt w B db 9 #[] L a cap lent ed) (hB : B ≤ w.heap.size) (hr : Rise kf L) :
    Calls Try.prog 43 #[.pointer (some ⟨db, 0, none⟩), .agg #[.int .i64 x.1, .int .i64 x.2], .int .i64 stop, .bool false] w (RngP w B db L a cap ed lent (someL (L.drop (rk kf L x.1)) stop)) := by
  have hdl := h.head.lt
  have hl8 := h.len
  have hLr : ∀ k, (Value.slice a L.length cap).ownBlock = some k → k < w.heap.size := fun k hk => (own_block_lt h.row k hk).2
  obtain ⟨W1, hW1⟩ : ∃ W1, (((w.alloc (.cells #[.int .i64 x.1, .int .i64 x.2] 28)).alloc (.cells #[.int .i64 stop] 3)).alloc (.cells #[] 28)).alloc (.cells #[.slice (some ⟨w.heap.size + 2, 0, none⟩) 0 0] 31) = W1 := ⟨_, rfl⟩
  have hs1 : W1.heap.size = w.heap.size + 4 := by rw [← hW1]; simp
  have hb1 : Below w.heap.size w W1 := by rw [← hW1]; exact ((((Below.refl _ w).alloc (Nat.le_refl _) _).alloc (by simp) _).alloc (by simp; omega) _).alloc (by simp; omega) _
  have hx1 : W1.heap[w.heap.size]? = some (.cells #[.int .i64 x.1, .int .i64 x.2] 28 (0, 0)) := by
    rw [← hW1, Below.heap_alloc _ _ _ (by simp; omega), Below.heap_alloc _ _ _ (by simp; omega), Below.heap_alloc _ _ _ (by simp)]
    exact heap_alloc_new w _
  have hp1 : W1.heap[w.heap.size + 1]? = some (.cells #[.int .i64 stop] 3 (0, 0)) := by
    rw [← hW1, Below.heap_alloc _ _ _ (by simp), Below.heap_alloc _ _ _ (by simp)]
    have := heap_alloc_new (w.alloc (.cells #[.int .i64 x.1, .int .i64 x.2] 28)) (.cells #[.int .i64 stop] 3)
    simpa using this
  have hq1 : W1.heap[w.heap.size + 2]? = some (.cells #[] 28 (0, 0)) := by
    rw [← hW1, Below.heap_alloc _ _ _ (by simp)]
    have := heap_alloc_new ((w.alloc (.cells #[.int .i64 x.1, .int .i64 x.2] 28)).alloc (.cells #[.int .i64 stop] 3)) (.cells #[] 28)
    simpa using this
  have hv1 : W1.heap[w.heap.size + 3]? = some (.cells #[.slice (some ⟨w.heap.size + 2, 0, none⟩) 0 0] 31 (0, 0)) := by
    rw [← hW1]
    have := heap_alloc_new (((w.alloc (.cells #[.int .i64 x.1, .int .i64 x.2] 28)).alloc (.cells #[.int .i64 stop] 3)).alloc (.cells #[] 28)) (.cells #[.slice (some ⟨w.heap.size + 2, 0, none⟩) 0 0] 31)
    simpa using this
  have HR1 : Hid (RnSt w B db L a cap ed lent stop [] W1) := ⟨⟨some ⟨w.heap.size + 2, 0, none⟩, 0, hv1, ⟨rfl, .inr ⟨w.heap.size + 2, 0, #[], rfl, Nat.le_refl _, hq1, Nat.le_refl _, Nat.zero_le _, rfl, rfl⟩⟩, fun k hk => by simp [Value.ownBlock] at hk; omega⟩, hp1, ⟨lent, id, h.below hb1⟩, (Turn.refl (fun b => b = db) w).then hb1 (Nat.le_refl _)⟩
  have hfrom := pfrom_any W1 (some ⟨db, 0, none⟩) x
  have cx0 : W1.cell? ⟨w.heap.size, 0, none⟩ = some (.int .i64 x.1) := cell_at hx1 0
  have cx1 : W1.cell? ⟨w.heap.size, 1, none⟩ = some (.int .i64 x.2) := cell_at hx1 1
  have H : Hid (LAt W1 B db 9 #[] L a cap lent ed) := h.below hb1
  have HW1 : Hid ((((w.alloc (.cells #[.int .i64 x.1, .int .i64 x.2] 28)).alloc (.cells #[.int .i64 stop] 3)).alloc (.cells #[] 28)).alloc (.cells #[.slice (some ⟨w.heap.size + 2, 0, none⟩) 0 0] 31) = W1) := hW1
  have Hr : Hid (Rise kf L) := hr
  have HLr : Hid (∀ k, (Value.slice a L.length cap).ownBlock = some k → k < w.heap.size) := hLr
  clear h hr hLr hW1 hb1 hx1 hp1 hq1 hv1
  refine (callsIn_wide (n := 0)).1 ?_
  refine callsIn_of_wp_marks Try.func43 rfl trivial ?_ rfl
  simp only [Try.ntmps43, List.size_toArray, List.length_cons, List.length_nil, Nat.reduceAdd, Nat.reduceSub, Array.replicate_succ, Array.replicate_zero, List.push_toArray, List.append_toArray, List.nil_append, List.cons_append]
  gi_wp2_with fail
  rw [HW1.out]
  refine ⟨trivial, rfl, (callsIn_wide.2 hfrom).mono ?_⟩
  rintro e W2 ⟨rfl, rfl⟩
  clear hfrom HW1
  obtain ⟨W3, hW3⟩ : ∃ W3, (W1.alloc (.cells #[.pointer (some ⟨db, 0, none⟩)] 23)).alloc (.cells #[.int .i64 x.1, .int .i64 x.2] 28) = W3 := ⟨_, rfl⟩
  have hb3 : Below W1.heap.size W1 W3 := by rw [← hW3]; exact (bel1 W1 _).alloc (by simp) _
  have hs3 : W3.heap.size = w.heap.size + 6 := by rw [← hW3]; simp; omega
  have e6 : W3.heap[w.heap.size + 4]? = some (.cells #[.pointer (some ⟨db, 0, none⟩)] 23 (0, 0)) := by
    rw [← hW3, Below.heap_alloc _ _ _ (by simp; omega), ← hs1]
    exact heap_alloc_new W1 _
  have e7 : W3.heap[w.heap.size + 5]? = some (.cells #[.int .i64 x.1, .int .i64 x.2] 28 (0, 0)) := by
    rw [← hW3]
    have := heap_alloc_new (W1.alloc (.cells #[.pointer (some ⟨db, 0, none⟩)] 23)) (.cells #[.int .i64 x.1, .int .i64 x.2] 28)
    rw [World.size_alloc, hs1] at this
    exact this
  rw [hW3]
  clear hW3 cx0 cx1
  have h3 : LAt W3 B db 9 #[] L a cap lent ed := H.out.below hb3
  have hR3 := HR1.out.below hdl hb3
  have H3 : Hid (LAt W3 B db 9 #[] L a cap lent ed) := h3
  have HR3 : Hid (RnSt w B db L a cap ed lent stop [] W3) := hR3
  have E6 : Hid (W3.heap[w.heap.size + 4]? = some (.cells #[.pointer (some ⟨db, 0, none⟩)] 23 (0, 0))) := e6
  have E7 : Hid (W3.heap[w.heap.size + 5]? = some (.cells #[.int .i64 x.1, .int .i64 x.2] 28 (0, 0))) := e7
  have hq : ∀ (lb : Array Value) w, (binOp .eql 117 (.func (.func 97) #[] lb) .nilFunc).run Try.prog w = .ok (.bool false) w := fun _ _ => by kernel_rfl
  clear h3 hR3 e6 e7 H HR1 hb3
  gi_wp2_with fail
  have eg : ∀ args w, (callFunc 97 args).run Try.prog w = .ok (.enter 97 args) w := enters_of Try.func97 (by kernel_rfl) rfl
  refine range_own (gf := 97) (lb := #[.pointer (some ⟨w.heap.size + 4, 0, none⟩), .pointer (some ⟨w.heap.size + 5, 0, none⟩)]) rfl eg (encs := enc1) (fun _ => rfl) (xs := L.drop (rk kf L x.1)) (K := fun k => (Value.slice a L.length cap).ownBlock = some k) (M := fun k => k = db)
    (fun k hk => by have := HLr.out k hk; omega) (fun k hk => by omega)
    (fun X hX hXs => from_goes _ _ _ (w.heap.size + 4) (w.heap.size + 5) X B db 9 #[] L a cap lent ed (ltK kf) (fun _ => True) x (rk kf L x.1) ((hX.cell (p := ⟨w.heap.size + 4, 0, none⟩) (by show w.heap.size + 4 < _; omega)).trans (cell_at E6.out 0)) ((hX.cell (p := ⟨w.heap.size + 5, 0, none⟩) (by show w.heap.size + 5 < _; omega)).trans (cell_at E7.out 0)) ((hX.cell (p := ⟨w.heap.size + 5, 1, none⟩) (by show w.heap.size + 5 < _; omega)).trans (cell_at E7.out 1)) (H3.out.below hX) rfl (fun _ h => h) (fun W _ => byKey_is W) trivial (fun _ _ => trivial) (cut_of Hr.out x))
    (fun pre X => RnSt w B db L a cap ed lent stop pre X ∧ (stop ≤ 0 ∨ (pre.length : Int) < stop))
    (fun c pre X => c = .exit 0 ∧ RnSt w B db L a cap ed lent stop pre X ∧ (pre.length : Int) = stop ∧ pre ≠ [])
    (fun s X Y hI st => ⟨hI.1.stab (fun _ e => e) hdl (by omega) st, hI.2⟩)
    (fun c s X Y hI st => ⟨hI.1, hI.2.1.stab (fun _ e => e) hdl (by omega) st, hI.2.2⟩)
    ⟨HR3.out, by simp; omega⟩
    (fun y a' X => ∃ xb, X.heap[xb]? = some (.cells #[.int .i64 y.1, .int .i64 y.2] 28 (0, 0)) ∧ xb ≠ db ∧ a' = { tmps := #[.pointer (some ⟨db, 0, none⟩), .agg #[.int .i64 x.1, .int .i64 x.2], .int .i64 stop, .bool false, undef, .pointer (some ⟨w.heap.size, 0, none⟩), .pointer (some ⟨w.heap.size + 1, 0, none⟩), undef, .slice none 0 0, .pointer (some ⟨w.heap.size + 1 + 1 + 1, 0, none⟩), (.func (.func 97) #[] #[.pointer (some ⟨w.heap.size + 4, 0, none⟩), .pointer (some ⟨w.heap.size + 4 + 1, 0, none⟩)]), .pointer (some ⟨xb, 0, none⟩), .slice (some ⟨w.heap.size + 1 + 1, 0, none⟩) 0 0, .pointer (some ⟨db, 0, none⟩), .agg #[.int .i64 x.1, .int .i64 x.2], (.func (.func 97) #[] #[.pointer (some ⟨w.heap.size + 4, 0, none⟩), .pointer (some ⟨w.heap.size + 4 + 1, 0, none⟩)]), .bool false, undef, undef, undef, (.func (.func 97) #[] #[.pointer (some ⟨w.heap.size + 4, 0, none⟩), .pointer (some ⟨w.heap.size + 4 + 1, 0, none⟩)]), .bool false, (.func (.func 97) #[] #[.pointer (some ⟨w.heap.size + 4, 0, none⟩), .pointer (some ⟨w.heap.size + 4 + 1, 0, none⟩)]), .agg #[.int .i64 y.1, .int .i64 y.2], undef, undef, undef, undef, undef, undef, undef, undef, undef], defers := [] })
    (fun y a' X Y hX st => by obtain ⟨xb, h1, h2, h3⟩ := hX; exact ⟨xb, st.same h1 h2 (.inr rfl), h2, h3⟩)
    ?assign ?body ?done ?stop
  case assign =>
    rintro l2 pre y X Kc ⟨i1, i2⟩ hK
    have hXs := i1.turn.size
    unfold enc1
    gi_wp2
    exact hK _ _ (Kp.of_turn ((Turn.refl (fun _ => False) X).alloc _) (fun _ _ e => e.elim)) ⟨i1.below hdl (bel1 _ _), i2⟩ ⟨X.heap.size, heap_alloc_new X _, by omega, rfl⟩
  case body =>
    rintro l2 pre y a' X hpre ⟨i1, i2⟩ ⟨xb, hxb, hxd, rfl⟩
    obtain ⟨la, lc, h1, h2, h3⟩ := i1.so
    have hlen : pre.length < 8192 := by
      have := hpre.length_le
      simp only [List.length_append, List.length_singleton, List.length_drop] at this
      omega
    have k0 : X.cell? ⟨xb, 0, none⟩ = some (.int .i64 y.1) := cell_at hxb 0
    have k1 : X.cell? ⟨xb, 1, none⟩ = some (.int .i64 y.2) := cell_at hxb 1
    have k2 : X.cell? ⟨w.heap.size + 1 + 1 + 1, 0, none⟩ = some (.slice la pre.length lc) := cell_at h1 0
    have hlt3 : w.heap.size + 3 < X.heap.size := (Array.getElem?_eq_some_iff.1 h1).1
    have HI : Hid (RnSt w B db L a cap ed lent stop pre X) := i1
    have HH1 : Hid (X.heap[w.heap.size + 3]? = some (.cells #[.slice la pre.length lc] 31 (0, 0))) := h1
    have HH2 : Hid (X.ownsRow (w.heap.size + 2) 28 2 (.slice la pre.length lc) pre.length (cellsOf pre)) := h2
    have HH3 : Hid (∀ k, (Value.slice la pre.length lc).ownBlock = some k → k ≠ w.heap.size + 3) := h3
    have HP : Hid (pre ++ [y] <+: L.drop (rk kf L x.1)) := hpre
    have hinfo : ∃ i0, Try.prog.info? 28 = some i0 ∧ i0.zero = some (.agg #[.int .i64 0, .int .i64 0]) ∧ i0.size = 2 ∧ i0.bytes = 16 := infoE.parts
    obtain ⟨i0, hi0, hz0, hz1, hz2⟩ := hinfo
    have hfin : ∀ Y la' lc', Y.ownsRow (w.heap.size + 2) 28 2 (.slice la' (pre.length + 1) lc') (pre.length + 1) (cellsOf pre ++ [.int .i64 y.1, .int .i64 y.2]) → (X.alloc (.cells #[.int .i64 y.1, .int .i64 y.2] 28)).grownBy Y (Value.slice la pre.length lc).ownBlock →
        ((Value.slice la' (pre.length + 1) lc').ownBlock = (Value.slice la pre.length lc).ownBlock ∨ (Value.slice la' (pre.length + 1) lc').ownBlock = some (X.alloc (.cells #[.int .i64 y.1, .int .i64 y.2] 28)).heap.size) →
        Y.cell? ⟨w.heap.size + 1 + 1 + 1, 0, none⟩ = some (.slice la pre.length lc) ∧ Y.frozen? ⟨w.heap.size + 1 + 1 + 1, 0, none⟩ = false ∧ Y.cell? ⟨w.heap.size + 1, 0, none⟩ = some (.int .i64 stop) ∧
        Hid (RnSt w B db L a cap ed lent stop (pre ++ [y]) (Y.setCell ⟨w.heap.size + 3, 0, none⟩ (.slice la' (pre.length + 1) lc')) ∧ Kp W3.heap.size (fun k => (Value.slice a L.length cap).ownBlock = some k) W3.heap.size X (Y.setCell ⟨w.heap.size + 3, 0, none⟩ (.slice la' (pre.length + 1) lc'))) := by
      intro Y la' lc' q1 q2 q3
      obtain ⟨r1, r2⟩ := HI.out.app (y := y) (o := .cells #[.int .i64 y.1, .int .i64 y.2] 28) hdl hB HLr.out HH1.out HH2.out HH3.out q1 q2 q3
      have b3 : Y.heap[w.heap.size + 3]? = some (.cells #[.slice la pre.length lc] 31 (0, 0)) := (q2.block _ (by simp; omega) (fun e => HH3.out _ e.symm rfl)).trans ((Below.heap_alloc _ _ _ hlt3).trans HH1.out)
      have b1 : Y.heap[w.heap.size + 1]? = some (.cells #[.int .i64 stop] 3 (0, 0)) := (q2.block _ (by simp; omega) (fun e => by have := (own_block_lt HH2.out _ e.symm).1; omega)).trans ((Below.heap_alloc _ _ _ (by omega)).trans HI.out.stop)
      refine ⟨cell_at b3 0, by simp [World.frozen?, b3], cell_at b1 0, r1, Kp.of_turn r2 (fun k hk hA => ?_)⟩
      rcases hA with e | ⟨e, cs, he⟩
      · exact ⟨fun hx => by have := HLr.out k hx; omega, .inl (by omega), .inl (by omega)⟩
      · exact ⟨fun hx => by have := HLr.out k hx; omega, .inr ⟨_, _, he⟩, .inr ⟨_, _, _, he⟩⟩
    clear h1 h2 h3 i1 hxb hpre
    by_cases hst : ((pre.length : Int) + 1) = stop
    · have hd : (((pre.length : Int) + 1) == stop) = true := beq_iff_eq.2 hst
      have Hst : Hid (((pre.length : Int) + 1) = stop) := hst
      clear hst
      gi_wp2_with (gi_at_builtin; go_must (refine wpListIn_append_own_at _ rfl _ _ 31 rfl (w.heap.size + 2) 28 i0 _ 2 16 Try.underlying31 hi0 hz0 hz1 hz2 rfl (by decide) _ pre.length (cellsOf pre) rfl (HH2.out.alloc _) ⟨X.heap.size, 0, none⟩ 1 1 [.int .i64 y.1, .int .i64 y.2] rfl rfl (fun j u hu => by obtain ⟨ad, e1, e2⟩ := two_at (isCells_new X #[.int .i64 y.1, .int .i64 y.2] 28) j u hu; cases e1; exact e2) (by intro u hu; simp at hu; rcases hu with rfl | rfl <;> rfl) (by unfold maxLen; omega) (by omega) (by simp; omega) ?_; intro v' Y q1 q2 q3 q4; obtain ⟨la', lc', rfl⟩ := own_slice q1; obtain ⟨s1, s2, s3, s4⟩ := hfin Y la' lc' q1 q2 q4; clear q1 q2 q3 q4 hfin))
      exact ⟨s4.out.2, rfl, s4.out.1, by have := Hst.out; simp; omega, by simp⟩
    · have hd : (((pre.length : Int) + 1) == stop) = false := beq_eq_false_iff_ne.2 hst
      have Hst : Hid (¬ ((pre.length : Int) + 1) = stop) := hst
      clear hst
      gi_wp2_with (gi_at_builtin; go_must (refine wpListIn_append_own_at _ rfl _ _ 31 rfl (w.heap.size + 2) 28 i0 _ 2 16 Try.underlying31 hi0 hz0 hz1 hz2 rfl (by decide) _ pre.length (cellsOf pre) rfl (HH2.out.alloc _) ⟨X.heap.size, 0, none⟩ 1 1 [.int .i64 y.1, .int .i64 y.2] rfl rfl (fun j u hu => by obtain ⟨ad, e1, e2⟩ := two_at (isCells_new X #[.int .i64 y.1, .int .i64 y.2] 28) j u hu; cases e1; exact e2) (by intro u hu; simp at hu; rcases hu with rfl | rfl <;> rfl) (by unfold maxLen; omega) (by omega) (by simp; omega) ?_; intro v' Y q1 q2 q3 q4; obtain ⟨la', lc', rfl⟩ := own_slice q1; obtain ⟨s1, s2, s3, s4⟩ := hfin Y la' lc' q1 q2 q4; clear q1 q2 q3 q4 hfin))
      exact ⟨s4.out.2, s4.out.1, by have := Hst.out; simp; omega⟩
  case done =>
    rintro X ⟨i1, i2⟩ hD
    obtain ⟨la, lc, h1, h2, h3⟩ := i1.so
    have k2 : X.cell? ⟨w.heap.size + 1 + 1 + 1, 0, none⟩ = some (.slice la (L.drop (rk kf L x.1)).length lc) := cell_at h1 0
    have hd := i1.done hdl (by omega) hD h1 h2 (someL (L.drop (rk kf L x.1)) stop) (some_all i2)
    have HD : Hid (∀ e, e = .returned (.slice la (L.drop (rk kf L x.1)).length lc) → RngP w B db L a cap ed lent (someL (L.drop (rk kf L x.1)) stop) e (X.putObj W3.heap.size (.deferred none))) := hd
    have HX : Hid (X.heap[W3.heap.size]? = some (.deferred (some []))) := hD
    clear h1 h2 h3 i1 i2 hd hD
    gi_wp2
    refine ⟨by simp, .inl ⟨_, _, rfl, run_takeDeferred HX.out, ?_⟩⟩
    exact ⟨_, results_tmp rfl _ _ _, HD.out _ (by simp)⟩
  case stop =>
    rintro c pre X hpre ⟨rfl, i1, i2, i3⟩ hD
    obtain ⟨la, lc, h1, h2, h3⟩ := i1.so
    have k2 : X.cell? ⟨w.heap.size + 1 + 1 + 1, 0, none⟩ = some (.slice la pre.length lc) := cell_at h1 0
    have hd := i1.done hdl (by omega) hD h1 h2 (someL (L.drop (rk kf L x.1)) stop) (some_pre hpre i2 i3)
    have HD : Hid (∀ e, e = .returned (.slice la pre.length lc) → RngP w B db L a cap ed lent (someL (L.drop (rk kf L x.1)) stop) e (X.putObj W3.heap.size (.deferred none))) := hd
    have HX : Hid (X.heap[W3.heap.size]? = some (.deferred (some []))) := hD
    clear h1 h2 h3 i1 i2 i3 hd hD hpre
    gi_wp2
    refine ⟨by simp, .inl ⟨_, _, rfl, run_takeDeferred HX.out, ?_⟩⟩
    exact ⟨_, results_tmp rfl _ _ _, HD.out _ (by simp)⟩

set_option maxRecDepth 100000 in
set_option maxHeartbeats 4000000 in
theorem ranged_back (w : World) (B db : Nat) (L : List (Int × Int)) (a : Option Addr) (cap : Nat) (lent : Bool) (ed : Int) (x : Int × Int) (stop : Int) (h : LAt w B db 9 #[] L a cap lent ed) (hB : B ≤ w.heap.size) (hr : Rise kf L) :
    Calls Try.prog 43 #[.pointer (some ⟨db, 0, none⟩), .agg #[.int .i64 x.1, .int .i64 x.2], .int .i64 stop, .bool true] w (RngP w B db L a cap ed lent (someL ((L.take (rk kf L x.1)).reverse) stop)) := by
  have hdl := h.head.lt
  have hl8 := h.len
  have hLr : ∀ k, (Value.slice a L.length cap).ownBlock = some k → k < w.heap.size := fun k hk => (own_block_lt h.row k hk).2
  obtain ⟨W1, hW1⟩ : ∃ W1, (((w.alloc (.cells #[.int .i64 x.1, .int .i64 x.2] 28)).alloc (.cells #[.int .i64 stop] 3)).alloc (.cells #[] 28)).alloc (.cells #[.slice (some ⟨w.heap.size + 2, 0, none⟩) 0 0] 31) = W1 := ⟨_, rfl⟩
  have hs1 : W1.heap.size = w.heap.size + 4 := by rw [← hW1]; simp
  have hb1 : Below w.heap.size w W1 := by rw [← hW1]; exact ((((Below.refl _ w).alloc (Nat.le_refl _) _).alloc (by simp) _).alloc (by simp; omega) _).alloc (by simp; omega) _
  have hx1 : W1.heap[w.heap.size]? = some (.cells #[.int .i64 x.1, .int .i64 x.2] 28 (0, 0)) := by
    rw [← hW1, Below.heap_alloc _ _ _ (by simp; omega), Below.heap_alloc _ _ _ (by simp; omega), Below.heap_alloc _ _ _ (by simp)]
    exact heap_alloc_new w _
  have hp1 : W1.heap[w.heap.size + 1]? = some (.cells #[.int .i64 stop] 3 (0, 0)) := by
    rw [← hW1, Below.heap_alloc _ _ _ (by simp), Below.heap_alloc _ _ _ (by simp)]
    have := heap_alloc_new (w.alloc (.cells #[.int .i64 x.1, .int .i64 x.2] 28)) (.cells #[.int .i64 stop] 3)
    simpa using this
  have hq1 : W1.heap[w.heap.size + 2]? = some (.cells #[] 28 (0, 0)) := by
    rw [← hW1, Below.heap_alloc _ _ _ (by simp)]
    have := heap_alloc_new ((w.alloc (.cells #[.int .i64 x.1, .int .i64 x.2] 28)).alloc (.cells #[.int .i64 stop] 3)) (.cells #[] 28)
    simpa using this
  have hv1 : W1.heap[w.heap.size + 3]? = some (.cells #[.slice (some ⟨w.heap.size + 2, 0, none⟩) 0 0] 31 (0, 0)) := by
    rw [← hW1]
    have := heap_alloc_new (((w.alloc (.cells #[.int .i64 x.1, .int .i64 x.2] 28)).alloc (.cells #[.int .i64 stop] 3)).alloc (.cells #[] 28)) (.cells #[.slice (some ⟨w.heap.size + 2, 0, none⟩) 0 0] 31)
    simpa using this
  have HR1 : Hid (RnSt w B db L a cap ed lent stop [] W1) := ⟨⟨some ⟨w.heap.size + 2, 0, none⟩, 0, hv1, ⟨rfl, .inr ⟨w.heap.size + 2, 0, #[], rfl, Nat.le_refl _, hq1, Nat.le_refl _, Nat.zero_le _, rfl, rfl⟩⟩, fun k hk => by simp [Value.ownBlock] at hk; omega⟩, hp1, ⟨lent, id, h.below hb1⟩, (Turn.refl (fun b => b = db) w).then hb1 (Nat.le_refl _)⟩
  have hfrom := pfrom_any W1 (some ⟨db, 0, none⟩) x
  have cx0 : W1.cell? ⟨w.heap.size, 0, none⟩ = some (.int .i64 x.1) := cell_at hx1 0
  have cx1 : W1.cell? ⟨w.heap.size, 1, none⟩ = some (.int .i64 x.2) := cell_at hx1 1
  have H : Hid (LAt W1 B db 9 #[] L a cap lent ed) := h.below hb1
  have HW1 : Hid ((((w.alloc (.cells #[.int .i64 x.1, .int .i64 x.2] 28)).alloc (.cells #[.int .i64 stop] 3)).alloc (.cells #[] 28)).alloc (.cells #[.slice (some ⟨w.heap.size + 2, 0, none⟩) 0 0] 31) = W1) := hW1
  have Hr : Hid (Rise kf L) := hr
  have HLr : Hid (∀ k, (Value.slice a L.length cap).ownBlock = some k → k < w.heap.size) := hLr
  clear h hr hLr hW1 hb1 hx1 hp1 hq1 hv1
  refine (callsIn_wide (n := 0)).1 ?_
  refine callsIn_of_wp_marks Try.func43 rfl trivial ?_ rfl
  simp only [Try.ntmps43, List.size_toArray, List.length_cons, List.length_nil, Nat.reduceAdd, Nat.reduceSub, Array.replicate_succ, Array.replicate_zero, List.push_toArray, List.append_toArray, List.nil_append, List.cons_append]
  gi_wp2_with fail
  rw [HW1.out]
  refine ⟨trivial, rfl, (callsIn_wide.2 hfrom).mono ?_⟩
  rintro e W2 ⟨rfl, rfl⟩
  clear hfrom HW1
  obtain ⟨W2, hW2⟩ : ∃ W2, (W1.alloc (.cells #[.pointer (some ⟨db, 0, none⟩)] 23)).alloc (.cells #[.int .i64 x.1, .int .i64 x.2] 28) = W2 := ⟨_, rfl⟩
  have hb2 : Below W1.heap.size W1 W2 := by rw [← hW2]; exact (bel1 W1 _).alloc (by simp) _
  have hs2 : W2.heap.size = w.heap.size + 6 := by rw [← hW2]; simp; omega
  rw [hW2]
  have dx0 : W2.cell? ⟨w.heap.size, 0, none⟩ = some (.int .i64 x.1) := (hb2.cell (p := ⟨w.heap.size, 0, none⟩) (by show w.heap.size < _; omega)).trans cx0
  have dx1 : W2.cell? ⟨w.heap.size, 1, none⟩ = some (.int .i64 x.2) := (hb2.cell (p := ⟨w.heap.size, 1, none⟩) (by show w.heap.size < _; omega)).trans cx1
  have hback := pback_any W2 (some ⟨db, 0, none⟩) x
  clear hW2 cx0 cx1
  gi_wp2_with fail
  refine ⟨trivial, rfl, (callsIn_wide.2 hback).mono ?_⟩
  rintro e W2' ⟨rfl, rfl⟩
  obtain ⟨W3, hW3⟩ : ∃ W3, (W2.alloc (.cells #[.pointer (some ⟨db, 0, none⟩)] 23)).alloc (.cells #[.int .i64 x.1, .int .i64 x.2] 28) = W3 := ⟨_, rfl⟩
  have hb3 : Below W1.heap.size W1 W3 := by rw [← hW3]; exact hb2.trans (((bel1 W2 _).alloc (by simp) _).mono hb2.size)
  have hs3 : W3.heap.size = w.heap.size + 8 := by rw [← hW3]; simp; omega
  have e6 : W3.heap[w.heap.size + 6]? = some (.cells #[.pointer (some ⟨db, 0, none⟩)] 23 (0, 0)) := by
    rw [← hW3, Below.heap_alloc _ _ _ (by simp; omega), ← hs2]
    exact heap_alloc_new W2 _
  have e7 : W3.heap[w.heap.size + 7]? = some (.cells #[.int .i64 x.1, .int .i64 x.2] 28 (0, 0)) := by
    rw [← hW3]
    have := heap_alloc_new (W2.alloc (.cells #[.pointer (some ⟨db, 0, none⟩)] 23)) (.cells #[.int .i64 x.1, .int .i64 x.2] 28)
    rw [World.size_alloc, hs2] at this
    exact this
  have q6 : W2.heap.size = w.heap.size + 6 := hs2
  rw [hW3]
  clear hback hb2 hs2 hW3 dx0 dx1
  have h3 : LAt W3 B db 9 #[] L a cap lent ed := H.out.below hb3
  have hR3 := HR1.out.below hdl hb3
  have H3 : Hid (LAt W3 B db 9 #[] L a cap lent ed) := h3
  have HR3 : Hid (RnSt w B db L a cap ed lent stop [] W3) := hR3
  have E6 : Hid (W3.heap[w.heap.size + 6]? = some (.cells #[.pointer (some ⟨db, 0, none⟩)] 23 (0, 0))) := e6
  have E7 : Hid (W3.heap[w.heap.size + 7]? = some (.cells #[.int .i64 x.1, .int .i64 x.2] 28 (0, 0))) := e7
  have hq : ∀ (lb : Array Value) w, (binOp .eql 117 (.func (.func 100) #[] lb) .nilFunc).run Try.prog w = .ok (.bool false) w := fun _ _ => by kernel_rfl
  clear h3 hR3 e6 e7 H HR1 hb3
  gi_wp2_with fail
  have eg : ∀ args w, (callFunc 100 args).run Try.prog w = .ok (.enter 100 args) w := enters_of Try.func100 (by kernel_rfl) rfl
  refine range_own (gf := 100) (lb := #[.pointer (some ⟨w.heap.size + 6, 0, none⟩), .pointer (some ⟨w.heap.size + 7, 0, none⟩)]) rfl eg (encs := enc1) (fun _ => rfl) (xs := (L.take (rk kf L x.1)).reverse) (K := fun k => (Value.slice a L.length cap).ownBlock = some k) (M := fun k => k = db)
    (fun k hk => by have := HLr.out k hk; omega) (fun k hk => by omega)
    (fun X hX hXs => back_goes _ _ _ (w.heap.size + 6) (w.heap.size + 7) X B db 9 #[] L a cap lent ed (ltK kf) (fun _ => True) x (rk kf L x.1) (by omega) (fun k hk => by have := HLr.out k hk; omega) (by omega) (by omega) (by omega) (by omega) ((hX.cell (p := ⟨w.heap.size + 6, 0, none⟩) (by show w.heap.size + 6 < _; omega)).trans (cell_at E6.out 0)) ((hX.cell (p := ⟨w.heap.size + 7, 0, none⟩) (by show w.heap.size + 7 < _; omega)).trans (cell_at E7.out 0)) ((hX.cell (p := ⟨w.heap.size + 7, 1, none⟩) (by show w.heap.size + 7 < _; omega)).trans (cell_at E7.out 1)) (H3.out.below hX) rfl (fun _ h => h) (fun W _ => byKey_is W) trivial (fun _ _ => trivial) (cut_of Hr.out x))
    (fun pre X => RnSt w B db L a cap ed lent stop pre X ∧ (stop ≤ 0 ∨ (pre.length : Int) < stop))
    (fun c pre X => c = .exit 0 ∧ RnSt w B db L a cap ed lent stop pre X ∧ (pre.length : Int) = stop ∧ pre ≠ [])
    (fun s X Y hI st => ⟨hI.1.stab (fun _ e => e) hdl (by omega) st, hI.2⟩)
    (fun c s X Y hI st => ⟨hI.1, hI.2.1.stab (fun _ e => e) hdl (by omega) st, hI.2.2⟩)
    ⟨HR3.out, by simp; omega⟩
    (fun y a' X => ∃ xb, X.heap[xb]? = some (.cells #[.int .i64 y.1, .int .i64 y.2] 28 (0, 0)) ∧ xb ≠ db ∧ a' = { tmps := #[.pointer (some ⟨db, 0, none⟩), .agg #[.int .i64 x.1, .int .i64 x.2], .int .i64 stop, .bool true, undef, .pointer (some ⟨w.heap.size, 0, none⟩), .pointer (some ⟨w.heap.size + 1, 0, none⟩), undef, .slice none 0 0, .pointer (some ⟨w.heap.size + 1 + 1 + 1, 0, none⟩), (.func (.func 100) #[] #[.pointer (some ⟨w.heap.size + 6, 0, none⟩), .pointer (some ⟨w.heap.size + 6 + 1, 0, none⟩)]), .pointer (some ⟨xb, 0, none⟩), .slice (some ⟨w.heap.size + 1 + 1, 0, none⟩) 0 0, .pointer (some ⟨db, 0, none⟩), .agg #[.int .i64 x.1, .int .i64 x.2], (.func (.func 97) #[] #[.pointer (some ⟨w.heap.size + 4, 0, none⟩), .pointer (some ⟨w.heap.size + 4 + 1, 0, none⟩)]), .bool true, .pointer (some ⟨db, 0, none⟩), .agg #[.int .i64 x.1, .int .i64 x.2], (.func (.func 100) #[] #[.pointer (some ⟨w.heap.size + 6, 0, none⟩), .pointer (some ⟨w.heap.size + 6 + 1, 0, none⟩)]), (.func (.func 100) #[] #[.pointer (some ⟨w.heap.size + 6, 0, none⟩), .pointer (some ⟨w.heap.size + 6 + 1, 0, none⟩)]), .bool false, (.func (.func 100) #[] #[.pointer (some ⟨w.heap.size + 6, 0, none⟩), .pointer (some ⟨w.heap.size + 6 + 1, 0, none⟩)]), .agg #[.int .i64 y.1, .int .i64 y.2], undef, undef, undef, undef, undef, undef, undef, undef, undef], defers := [] })
    (fun y a' X Y hX st => by obtain ⟨xb, h1, h2, h3⟩ := hX; exact ⟨xb, st.same h1 h2 (.inr rfl), h2, h3⟩)
    ?assign ?body ?done ?stop
  case assign =>
    rintro l2 pre y X Kc ⟨i1, i2⟩ hK
    have hXs := i1.turn.size
    unfold enc1
    gi_wp2
    exact hK _ _ (Kp.of_turn ((Turn.refl (fun _ => False) X).alloc _) (fun _ _ e => e.elim)) ⟨i1.below hdl (bel1 _ _), i2⟩ ⟨X.heap.size, heap_alloc_new X _, by omega, rfl⟩
  case body =>
    rintro l2 pre y a' X hpre ⟨i1, i2⟩ ⟨xb, hxb, hxd, rfl⟩
    obtain ⟨la, lc, h1, h2, h3⟩ := i1.so
    have hlen : pre.length < 8192 := by
      have := hpre.length_le
      simp only [List.length_append, List.length_singleton, List.length_reverse, List.length_take] at this
      omega
    have k0 : X.cell? ⟨xb, 0, none⟩ = some (.int .i64 y.1) := cell_at hxb 0
    have k1 : X.cell? ⟨xb, 1, none⟩ = some (.int .i64 y.2) := cell_at hxb 1
    have k2 : X.cell? ⟨w.heap.size + 1 + 1 + 1, 0, none⟩ = some (.slice la pre.length lc) := cell_at h1 0
    have hlt3 : w.heap.size + 3 < X.heap.size := (Array.getElem?_eq_some_iff.1 h1).1
    have HI : Hid (RnSt w B db L a cap ed lent stop pre X) := i1
    have HH1 : Hid (X.heap[w.heap.size + 3]? = some (.cells #[.slice la pre.length lc] 31 (0, 0))) := h1
    have HH2 : Hid (X.ownsRow (w.heap.size + 2) 28 2 (.slice la pre.length lc) pre.length (cellsOf pre)) := h2
    have HH3 : Hid (∀ k, (Value.slice la pre.length lc).ownBlock = some k → k ≠ w.heap.size + 3) := h3
    have HP : Hid (pre ++ [y] <+: (L.take (rk kf L x.1)).reverse) := hpre
    have hinfo : ∃ i0, Try.prog.info? 28 = some i0 ∧ i0.zero = some (.agg #[.int .i64 0, .int .i64 0]) ∧ i0.size = 2 ∧ i0.bytes = 16 := infoE.parts
    obtain ⟨i0, hi0, hz0, hz1, hz2⟩ := hinfo
    have hfin : ∀ Y la' lc', Y.ownsRow (w.heap.size + 2) 28 2 (.slice la' (pre.length + 1) lc') (pre.length + 1) (cellsOf pre ++ [.int .i64 y.1, .int .i64 y.2]) → (X.alloc (.cells #[.int .i64 y.1, .int .i64 y.2] 28)).grownBy Y (Value.slice la pre.length lc).ownBlock →
        ((Value.slice la' (pre.length + 1) lc').ownBlock = (Value.slice la pre.length lc).ownBlock ∨ (Value.slice la' (pre.length + 1) lc').ownBlock = some (X.alloc (.cells #[.int .i64 y.1, .int .i64 y.2] 28)).heap.size) →
        Y.cell? ⟨w.heap.size + 1 + 1 + 1, 0, none⟩ = some (.slice la pre.length lc) ∧ Y.frozen? ⟨w.heap.size + 1 + 1 + 1, 0, none⟩ = false ∧ Y.cell? ⟨w.heap.size + 1, 0, none⟩ = some (.int .i64 stop) ∧
        Hid (RnSt w B db L a cap ed lent stop (pre ++ [y]) (Y.setCell ⟨w.heap.size + 3, 0, none⟩ (.slice la' (pre.length + 1) lc')) ∧ Kp W3.heap.size (fun k => (Value.slice a L.length cap).ownBlock = some k) W3.heap.size X (Y.setCell ⟨w.heap.size + 3, 0, none⟩ (.slice la' (pre.length + 1) lc'))) := by
      intro Y la' lc' q1 q2 q3
      obtain ⟨r1, r2⟩ := HI.out.app (y := y) (o := .cells #[.int .i64 y.1, .int .i64 y.2] 28) hdl hB HLr.out HH1.out HH2.out HH3.out q1 q2 q3
      have b3 : Y.heap[w.heap.size + 3]? = some (.cells #[.slice la pre.length lc] 31 (0, 0)) := (q2.block _ (by simp; omega) (fun e => HH3.out _ e.symm rfl)).trans ((Below.heap_alloc _ _ _ hlt3).trans HH1.out)
      have b1 : Y.heap[w.heap.size + 1]? = some (.cells #[.int .i64 stop] 3 (0, 0)) := (q2.block _ (by simp; omega) (fun e => by have := (own_block_lt HH2.out _ e.symm).1; omega)).trans ((Below.heap_alloc _ _ _ (by omega)).trans HI.out.stop)
      refine ⟨cell_at b3 0, by simp [World.frozen?, b3], cell_at b1 0, r1, Kp.of_turn r2 (fun k hk hA => ?_)⟩
      rcases hA with e | ⟨e, cs, he⟩
      · exact ⟨fun hx => by have := HLr.out k hx; omega, .inl (by omega), .inl (by omega)⟩
      · exact ⟨fun hx => by have := HLr.out k hx; omega, .inr ⟨_, _, he⟩, .inr ⟨_, _, _, he⟩⟩
    clear h1 h2 h3 i1 hxb hpre
    by_cases hst : ((pre.length : Int) + 1) = stop
    · have hd : (((pre.length : Int) + 1) == stop) = true := beq_iff_eq.2 hst
      have Hst : Hid (((pre.length : Int) + 1) = stop) := hst
      clear hst
      gi_wp2_with (gi_at_builtin; go_must (refine wpListIn_append_own_at _ rfl _ _ 31 rfl (w.heap.size + 2) 28 i0 _ 2 16 Try.underlying31 hi0 hz0 hz1 hz2 rfl (by decide) _ pre.length (cellsOf pre) rfl (HH2.out.alloc _) ⟨X.heap.size, 0, none⟩ 1 1 [.int .i64 y.1, .int .i64 y.2] rfl rfl (fun j u hu => by obtain ⟨ad, e1, e2⟩ := two_at (isCells_new X #[.int .i64 y.1, .int .i64 y.2] 28) j u hu; cases e1; exact e2) (by intro u hu; simp at hu; rcases hu with rfl | rfl <;> rfl) (by unfold maxLen; omega) (by omega) (by simp; omega) ?_; intro v' Y q1 q2 q3 q4; obtain ⟨la', lc', rfl⟩ := own_slice q1; obtain ⟨s1, s2, s3, s4⟩ := hfin Y la' lc' q1 q2 q4; clear q1 q2 q3 q4 hfin))
      exact ⟨s4.out.2, rfl, s4.out.1, by have := Hst.out; simp; omega, by simp⟩
    · have hd : (((pre.length : Int) + 1) == stop) = false := beq_eq_false_iff_ne.2 hst
      have Hst : Hid (¬ ((pre.length : Int) + 1) = stop) := hst
      clear hst
      gi_wp2_with (gi_at_builtin; go_must (refine wpListIn_append_own_at _ rfl _ _ 31 rfl (w.heap.size + 2) 28 i0 _ 2 16 Try.underlying31 hi0 hz0 hz1 hz2 rfl (by decide) _ pre.length (cellsOf pre) rfl (HH2.out.alloc _) ⟨X.heap.size, 0, none⟩ 1 1 [.int .i64 y.1, .int .i64 y.2] rfl rfl (fun j u hu => by obtain ⟨ad, e1, e2⟩ := two_at (isCells_new X #[.int .i64 y.1, .int .i64 y.2] 28) j u hu; cases e1; exact e2) (by intro u hu; simp at hu; rcases hu with rfl | rfl <;> rfl) (by unfold maxLen; omega) (by omega) (by simp; omega) ?_; intro v' Y q1 q2 q3 q4; obtain ⟨la', lc', rfl⟩ := own_slice q1; obtain ⟨s1, s2, s3, s4⟩ := hfin Y la' lc' q1 q2 q4; clear q1 q2 q3 q4 hfin))
      exact ⟨s4.out.2, s4.out.1, by have := Hst.out; simp; omega⟩
  case done =>
    rintro X ⟨i1, i2⟩ hD
    obtain ⟨la, lc, h1, h2, h3⟩ := i1.so
    have k2 : X.cell? ⟨w.heap.size + 1 + 1 + 1, 0, none⟩ = some (.slice la ((L.take (rk kf L x.1)).reverse).length lc) := cell_at h1 0
    have hd := i1.done hdl (by omega) hD h1 h2 (someL ((L.take (rk kf L x.1)).reverse) stop) (some_all i2)
    have HD : Hid (∀ e, e = .returned (.slice la ((L.take (rk kf L x.1)).reverse).length lc) → RngP w B db L a cap ed lent (someL ((L.take (rk kf L x.1)).reverse) stop) e (X.putObj W3.heap.size (.deferred none))) := hd
    have HX : Hid (X.heap[W3.heap.size]? = some (.deferred (some []))) := hD
    clear h1 h2 h3 i1 i2 hd hD
    gi_wp2
    refine ⟨by simp, .inl ⟨_, _, rfl, run_takeDeferred HX.out, ?_⟩⟩
    exact ⟨_, results_tmp rfl _ _ _, HD.out _ (by simp)⟩
  case stop =>
    rintro c pre X hpre ⟨rfl, i1, i2, i3⟩ hD
    obtain ⟨la, lc, h1, h2, h3⟩ := i1.so
    have k2 : X.cell? ⟨w.heap.size + 1 + 1 + 1, 0, none⟩ = some (.slice la pre.length lc) := cell_at h1 0
    have hd := i1.done hdl (by omega) hD h1 h2 (someL ((L.take (rk kf L x.1)).reverse) stop) (some_pre hpre i2 i3)
    have HD : Hid (∀ e, e = .returned (.slice la pre.length lc) → RngP w B db L a cap ed lent (someL ((L.take (rk kf L x.1)).reverse) stop) e (X.putObj W3.heap.size (.deferred none))) := hd
    have HX : Hid (X.heap[W3.heap.size]? = some (.deferred (some []))) := hD
    clear h1 h2 h3 i1 i2 i3 hd hD hpre
    gi_wp2
    refine ⟨by simp, .inl ⟨_, _, rfl, run_takeDeferred HX.out, ?_⟩⟩
    exact ⟨_, results_tmp rfl _ _ _, HD.out _ (by simp)⟩

end Go.Proofs.Ytiggpbjgnododaa.T
