/- all: a list of items and the document's, ranged over, hold the same. -/
import Derived.Test.YtiggpbjgnododaaTrw
import Derived.Test.YtiggpbjgnododaaRq
namespace Go.Proofs.Ytiggpbjgnododaa.T
open Go.RowKit Go.Shelf
set_option linter.unusedVariables false
attribute [local go_sem] Oper.semAt_some

/-- A list and the document's hold the same items, and lie apart. -/
structure Both (w : World) (B db rb : Nat) (L : List (Int × Int)) (a : Option Addr) (cap : Nat) (lent : Bool) (ed : Int) (ra : Option Addr) (rc : Nat) : Prop where
  list : LAt w B db 9 #[] L a cap lent ed
  ref : RAt w B rb L ra rc
  ne : db ≠ rb
  rowr : ∀ k, (Value.slice a L.length cap).ownBlock = some k → k ≠ rb
  rowd : ∀ k, (Value.slice ra L.length rc).ownBlock = some k → k ≠ db
  rows : ∀ k, (Value.slice a L.length cap).ownBlock = some k → (Value.slice ra L.length rc).ownBlock ≠ some k

theorem RAt.turned {X Y : World} {B rb db : Nat} {L : List (Int × Int)} {a : Option Addr} {cap : Nat} {A : Nat → Prop} (h : RAt X B rb L a cap) (h1 : ¬ A rb) (h2 : ∀ k, (Value.slice a L.length cap).ownBlock = some k → ¬ A k) (st : Turn A X Y) : RAt Y B rb L a cap :=
  h.of_blocks (st.block rb h.head.lt h1) (fun k hk => st.block k (own_block_lt h.row k hk).2 (h2 k hk))

theorem RAt.stab {X Y : World} {B rb db : Nat} {L : List (Int × Int)} {a : Option Addr} {cap : Nat} {N : Nat} {M : Nat → Prop} (hM : ∀ k, M k → k = db) (h : RAt X B rb L a cap) (h1 : rb ≠ db) (h2 : ∀ k, (Value.slice a L.length cap).ownBlock = some k → k ≠ db) (st : Stab N M X Y) : RAt Y B rb L a cap := by
  obtain ⟨T, hT⟩ := h.head
  refine ⟨⟨T, st.same hT (fun hm => h1 (hM _ hm)) (.inr rfl)⟩, own_of_block h.row (fun k hk => ?_), h.ne, h.len⟩
  have hk2 := h2 k hk
  rcases h.row.2 with ⟨e, _⟩ | ⟨g', cap', cur, e, _, hh, _⟩
  · rw [e] at hk; cases hk
  · rw [e] at hk
    simp only [Value.ownBlock, Option.some.injEq] at hk
    subst hk
    rw [hh]
    exact st.same hh (fun hm => hk2 (hM _ hm)) (.inr rfl)

theorem enum_pre {L : List (Int × Int)} {pre : List (Nat × (Int × Int))} {x : Nat × (Int × Int)} (h : pre ++ [x] <+: enum L) : x.1 = pre.length ∧ L[pre.length]? = some x.2 := by
  obtain ⟨t, ht⟩ := h
  have e : (enum L)[pre.length]? = some x := by rw [← ht]; simp
  simp only [enum, List.getElem?_mapIdx, Option.map_eq_some_iff] at e
  obtain ⟨y, h1, h2⟩ := e
  exact ⟨by rw [← h2], by rw [h1, ← h2]⟩

/-- What is there while both are gone through. -/
structure AlSt (w : World) (B db rb : Nat) (L : List (Int × Int)) (a : Option Addr) (cap : Nat) (ed : Int) (l0 : Bool) (ra : Option Addr) (rc : Nat) (pre : List (Nat × (Int × Int))) (X : World) : Prop where
  dbx : X.heap[w.heap.size]? = some (.cells #[.pointer (some ⟨rb, 0, none⟩)] 30 (0, 0))
  res : X.heap[w.heap.size + 1]? = some (.cells #[.bool false] 4 (0, 0))
  cnt : X.heap[w.heap.size + 2]? = some (.cells #[.int .i64 (pre.length : Int)] 3 (0, 0))
  list : ∃ lent, (l0 = true → lent = true) ∧ LAt X B db 9 #[] L a cap lent ed
  ref : RAt X B rb L ra rc
  turn : Turn (fun b => b = db) w X

theorem AlSt.stab {w X Y : World} {B db rb : Nat} {L : List (Int × Int)} {a : Option Addr} {cap : Nat} {ed : Int} {l0 : Bool} {ra : Option Addr} {rc : Nat} {pre : List (Nat × (Int × Int))} {N : Nat} {M : Nat → Prop} (hM : ∀ k, M k → k = db) (hd : db < w.heap.size) (hN : w.heap.size ≤ N) (hne : rb ≠ db) (hrow : ∀ k, (Value.slice ra L.length rc).ownBlock = some k → k ≠ db)
    (h : AlSt w B db rb L a cap ed l0 ra rc pre X) (st : Stab N M X Y) : AlSt w B db rb L a cap ed l0 ra rc pre Y := by
  obtain ⟨lent, hlm, h4⟩ := h.list
  obtain ⟨lent', hlm', h4'⟩ := h4.stab hM st
  exact ⟨st.same h.dbx (fun hm => by have := hM _ hm; omega) (.inr rfl), st.same h.res (fun hm => by have := hM _ hm; omega) (.inr rfl), st.same h.cnt (fun hm => by have := hM _ hm; omega) (.inr rfl), ⟨lent', fun e => hlm' (hlm e), h4'⟩, h.ref.stab hM hne hrow st, turn_stab hM hN h.turn st⟩

theorem AlSt.step {w X : World} {B db rb : Nat} {L : List (Int × Int)} {a : Option Addr} {cap : Nat} {ed : Int} {l0 : Bool} {ra : Option Addr} {rc : Nat} {pre : List (Nat × (Int × Int))} (hd : db < w.heap.size) (hr : rb < w.heap.size) (h1 : ∀ k, (Value.slice a L.length cap).ownBlock = some k → k < w.heap.size) (h2 : ∀ k, (Value.slice ra L.length rc).ownBlock = some k → k < w.heap.size)
    (h : AlSt w B db rb L a cap ed l0 ra rc pre X) (y : Nat × (Int × Int)) (m : Nat) (v : Value) (hv : v = .int .i64 ((pre ++ [y]).length : Int)) :
    AlSt w B db rb L a cap ed l0 ra rc (pre ++ [y]) ((X.drewN m).setCell ⟨w.heap.size + 2, 0, none⟩ v) ∧ Turn (fun b => b = w.heap.size + 2) X ((X.drewN m).setCell ⟨w.heap.size + 2, 0, none⟩ v) := by
  have far : ∀ k, k ≠ w.heap.size + 2 → ((X.drewN m).setCell ⟨w.heap.size + 2, 0, none⟩ v).heap[k]? = X.heap[k]? := fun k hk => (Below.heap_setCell _ _ _ _ hk)
  obtain ⟨lent, hlm, h4⟩ := h.list
  refine ⟨⟨(far _ (by omega)).trans h.dbx, (far _ (by omega)).trans h.res, ?_, ⟨lent, hlm, h4.of_blocks (far db (by omega)) (fun k hk => far k (by have := h1 k hk; omega))⟩, h.ref.of_blocks (far rb (by omega)) (fun k hk => far k (by have := h2 k hk; omega)), ?_⟩, ?_⟩
  · subst hv
    simp [World.setCell, Array.getElem?_modify, h.cnt]
  · exact ⟨h.turn.os, h.turn.tape, h.turn.output, by have := h.turn.size; simpa [World.setCell] using this, fun k hk hne => (far k (by omega)).trans (h.turn.block k hk hne)⟩
  · exact ⟨rfl, rfl, rfl, by simp [World.setCell], fun k hk hne => far k hne⟩

set_option maxRecDepth 100000 in
set_option maxHeartbeats 4000000 in
theorem all_same (w : World) (B db rb : Nat) (L : List (Int × Int)) (a : Option Addr) (cap : Nat) (lent : Bool) (ed : Int) (ra : Option Addr) (rc : Nat) (h : Both w B db rb L a cap lent ed ra rc) (hB : B ≤ w.heap.size) :
    Calls Try.prog 11 #[.pointer (some ⟨db, 0, none⟩), .pointer (some ⟨rb, 0, none⟩)] w fun e w' => e = .returned (.bool true) ∧ (∃ lent', (lent = true → lent' = true) ∧ LAt w' B db 9 #[] L a cap lent' ed) ∧ Turn (fun b => b = db) w w' := by
  have hdl := h.list.head.lt
  have hrl := h.ref.head.lt
  have hl8 := h.list.len
  have hLr : ∀ k, (Value.slice a L.length cap).ownBlock = some k → k < w.heap.size := fun k hk => (own_block_lt h.list.row k hk).2
  obtain ⟨W1, hW1⟩ : ∃ W1, ((w.alloc (.cells #[.pointer (some ⟨rb, 0, none⟩)] 30)).alloc (.cells #[.bool false] 4)).alloc (.cells #[.int .i64 0] 3) = W1 := ⟨_, rfl⟩
  have hs1 : W1.heap.size = w.heap.size + 3 := by rw [← hW1]; simp
  have hb1 : Below w.heap.size w W1 := by rw [← hW1]; exact (((Below.refl _ w).alloc (Nat.le_refl _) _).alloc (by simp) _).alloc (by simp; omega) _
  have hx1 : W1.heap[w.heap.size]? = some (.cells #[.pointer (some ⟨rb, 0, none⟩)] 30 (0, 0)) := by
    rw [← hW1, Below.heap_alloc _ _ _ (by simp; omega), Below.heap_alloc _ _ _ (by simp)]
    exact heap_alloc_new w _
  have hp1 : W1.heap[w.heap.size + 1]? = some (.cells #[.bool false] 4 (0, 0)) := by
    rw [← hW1, Below.heap_alloc _ _ _ (by simp)]
    have := heap_alloc_new (w.alloc (.cells #[.pointer (some ⟨rb, 0, none⟩)] 30)) (.cells #[.bool false] 4)
    simpa using this
  have hq1 : W1.heap[w.heap.size + 2]? = some (.cells #[.int .i64 0] 3 (0, 0)) := by
    rw [← hW1]
    have := heap_alloc_new ((w.alloc (.cells #[.pointer (some ⟨rb, 0, none⟩)] 30)).alloc (.cells #[.bool false] 4)) (.cells #[.int .i64 0] 3)
    simpa using this
  obtain ⟨W3, hW3⟩ : ∃ W3, W1.alloc (.cells #[.pointer (some ⟨db, 0, none⟩)] 23) = W3 := ⟨_, rfl⟩
  have hb3 : Below W1.heap.size W1 W3 := by rw [← hW3]; exact bel1 W1 _
  have hs3 : W3.heap.size = w.heap.size + 4 := by rw [← hW3]; simp; omega
  have e6 : W3.heap[w.heap.size + 3]? = some (.cells #[.pointer (some ⟨db, 0, none⟩)] 23 (0, 0)) := by
    rw [← hW3, ← hs1]
    exact heap_alloc_new W1 _
  have hbw : Below w.heap.size w W3 := hb1.trans (hb3.mono (by omega))
  have hA3 : AlSt w B db rb L a cap ed lent ra rc [] W3 := ⟨(hb3.block _ (by omega)).trans hx1, (hb3.block _ (by omega)).trans hp1, (hb3.block _ (by omega)).trans hq1, ⟨lent, id, h.list.below hbw⟩, h.ref.below hbw, (Turn.refl (fun b => b = db) w).then hbw (Nat.le_refl _)⟩
  have hall := pall_any W1 (some ⟨db, 0, none⟩)
  rw [hW3] at hall
  have HA3 : Hid (AlSt w B db rb L a cap ed lent ra rc [] W3) := hA3
  have HL3 : Hid (LAt W3 B db 9 #[] L a cap lent ed) := h.list.below hbw
  have E6 : Hid (W3.heap[w.heap.size + 3]? = some (.cells #[.pointer (some ⟨db, 0, none⟩)] 23 (0, 0))) := e6
  have HW1 : Hid (((w.alloc (.cells #[.pointer (some ⟨rb, 0, none⟩)] 30)).alloc (.cells #[.bool false] 4)).alloc (.cells #[.int .i64 0] 3) = W1) := hW1
  have HLr : Hid (∀ k, (Value.slice a L.length cap).ownBlock = some k → k < w.heap.size) := hLr
  have HB : Hid (Both w B db rb L a cap lent ed ra rc) := h
  have hne := h.ne
  clear h hLr hW1 hW3 hb1 hx1 hp1 hq1 hb3 hA3 e6 hbw
  refine (callsIn_wide (n := 0)).1 ?_
  refine callsIn_of_wp_marks Try.func11 rfl trivial ?_ rfl
  simp only [Try.ntmps11, List.size_toArray, List.length_cons, List.length_nil, Nat.reduceAdd, Nat.reduceSub, Array.replicate_succ, Array.replicate_zero, List.push_toArray, List.append_toArray, List.nil_append, List.cons_append]
  gi_wp2_with fail
  rw [HW1.out]
  refine ⟨trivial, rfl, (callsIn_wide.2 hall).mono ?_⟩
  rintro e W2 ⟨rfl, rfl⟩
  clear hall HW1
  have hq : ∀ (lb : Array Value) w, (binOp .eql 43 (.func (.func 47) #[] lb) .nilFunc).run Try.prog w = .ok (.bool false) w := fun _ _ => by kernel_rfl
  gi_wp2_with fail
  have eg : ∀ args w, (callFunc 47 args).run Try.prog w = .ok (.enter 47 args) w := enters_of Try.func47 (by kernel_rfl) rfl
  refine range_own (gf := 47) (lb := #[.pointer (some ⟨w.heap.size + 3, 0, none⟩)]) rfl eg (encs := enc2) (fun _ => rfl) (xs := enum L) (K := fun k => (Value.slice a L.length cap).ownBlock = some k) (M := fun k => k = db)
    (fun k hk => by have := HLr.out k hk; omega) (fun k hk => by omega)
    (fun X hX hXs => all_goes _ _ _ (w.heap.size + 3) X B db 9 #[] L a cap lent ed ((hX.cell (p := ⟨w.heap.size + 3, 0, none⟩) (by show w.heap.size + 3 < _; omega)).trans (cell_at E6.out 0)) (HL3.out.below hX) rfl (fun _ h => h))
    (fun pre X => AlSt w B db rb L a cap ed lent ra rc pre X)
    (fun c pre X => False)
    (fun s X Y hI st => hI.stab (fun _ e => e) hdl (by omega) (fun e => hne e.symm) HB.out.rowd st)
    (fun c s X Y hI st => hI)
    HA3.out
    (fun y a' X => ∃ xb, X.heap[xb]? = some (.cells #[.int .i64 y.2.1, .int .i64 y.2.2] 28 (0, 0)) ∧ xb ≠ db ∧ a' = { tmps := #[.pointer (some ⟨db, 0, none⟩), .pointer (some ⟨rb, 0, none⟩), undef, .pointer (some ⟨w.heap.size, 0, none⟩), .pointer (some ⟨w.heap.size + 1, 0, none⟩), .pointer (some ⟨w.heap.size + 1 + 1, 0, none⟩), .func (.func 47) #[] #[.pointer (some ⟨w.heap.size + 3, 0, none⟩)], .int .i64 (y.1 : Int), .pointer (some ⟨xb, 0, none⟩), .pointer (some ⟨db, 0, none⟩), .func (.func 47) #[] #[.pointer (some ⟨w.heap.size + 3, 0, none⟩)], .func (.func 47) #[] #[.pointer (some ⟨w.heap.size + 3, 0, none⟩)], .bool false, .func (.func 47) #[] #[.pointer (some ⟨w.heap.size + 3, 0, none⟩)], .int .i64 (y.1 : Int), .agg #[.int .i64 y.2.1, .int .i64 y.2.2], undef, undef, undef, undef, undef, undef, undef, undef, undef, undef, undef, undef, undef, undef, undef, undef, undef, undef, undef, undef, undef, undef, undef, undef, undef, undef, undef, undef, undef, undef, undef, undef, undef, undef, undef, undef, undef, undef], defers := [] })
    (fun y a' X Y hX st => by obtain ⟨xb, h1, h2, h3⟩ := hX; exact ⟨xb, st.same h1 h2 (.inr rfl), h2, h3⟩)
    ?assign ?body ?done ?stop
  case assign =>
    rintro l2 pre y X Kc i1 hK
    have hXs := i1.turn.size
    unfold enc2
    gi_wp2
    exact hK _ _ (Kp.of_turn ((Turn.refl (fun _ => False) X).alloc _) (fun _ _ e => e.elim)) (i1.stab (N := w.heap.size) (M := fun k => k = db) (fun _ e => e) hdl (Nat.le_refl _) (fun e => hne e.symm) HB.out.rowd (Stab.below (bel1 _ _))) ⟨X.heap.size, heap_alloc_new X _, by omega, rfl⟩
  case body =>
    rintro l2 pre ⟨i, y⟩ a' X hpre i1 ⟨xb, hxb, hxd, rfl⟩
    obtain ⟨hi, hy⟩ := enum_pre hpre
    dsimp only at hi hy hxb ⊢
    subst hi
    obtain ⟨g, rfl, hg1, hg2, hg3⟩ := items_of rfl i1.ref.row _ _ hy
    have hlt := (List.getElem?_eq_some_iff.1 hy).1
    have k0 : X.cell? ⟨xb, 0, none⟩ = some (.int .i64 y.1) := cell_at hxb 0
    have k1 : X.cell? ⟨xb, 1, none⟩ = some (.int .i64 y.2) := cell_at hxb 1
    have k2 : X.cell? ⟨w.heap.size, 0, none⟩ = some (.pointer (some ⟨rb, 0, none⟩)) := cell_at i1.dbx 0
    have k3 : X.cell? ⟨w.heap.size + 1 + 1, 0, none⟩ = some (.int .i64 (pre.length : Int)) := cell_at i1.cnt 0
    have k4 : X.cell? ⟨rb, 0, none⟩ = some (.slice (some ⟨g, 0, none⟩) L.length rc) := i1.ref.head.cell 0
    have k5 : X.frozen? ⟨w.heap.size + 1 + 1, 0, none⟩ = false := by simp [World.frozen?, i1.cnt]
    have hk1 : (pre.length : Int) < (L.length : Int) := by omega
    have hk2 : (0 : Int) ≤ (pre.length : Int) := by omega
    have hk3 : (L.length : Int) ≤ 8192 := by omega
    have HI : Hid (AlSt w B db rb L a cap ed lent (some ⟨g, 0, none⟩) rc pre X) := i1
    generalize hn : pre.length = n at *
    have hd1 : decide (L.length ≤ n) = false := by simp; omega
    have Hn : Hid (pre.length = n) := hn
    clear hn i1 hpre hy hxb
    gi_wp2_with fail
    refine region_round (by kernel_rfl) (by kernel_rfl) (by kernel_rfl) ?_
    repeat go_big_quiet_step (fail)
    refine wpQuiet_nil ?_
    intro _ hw'
    obtain ⟨nq, hw''⟩ := hw'
    subst hw''
    have HR2 := HB.out.ref.row
    gi_wp2
    obtain ⟨r1, r2⟩ := HI.out.step hdl hrl HLr.out (fun k hk => (own_block_lt HR2 k hk).2) (n, y) nq (.int .i64 ((n : Int) + 1)) (v_int (by have := Hn.out; simp; omega))
    exact ⟨Kp.of_turn r2 (fun k hk hA => by have hA' : k = w.heap.size + 2 := hA; exact ⟨fun hx => by have := HLr.out k hx; omega, .inl (by omega), .inl (by omega)⟩), r1⟩
  case done =>
    rintro X i1 hD
    obtain ⟨lent2, -, hl2⟩ := i1.list
    have hen : (enum L).length = L.length := enum_length L
    have k2 : X.cell? ⟨w.heap.size, 0, none⟩ = some (.pointer (some ⟨rb, 0, none⟩)) := cell_at i1.dbx 0
    have k3 : X.cell? ⟨w.heap.size + 1 + 1, 0, none⟩ = some (.int .i64 (L.length : Int)) := by rw [← hen]; exact cell_at i1.cnt 0
    have k4 : X.cell? ⟨rb, 0, none⟩ = some (.slice ra L.length rc) := i1.ref.head.cell 0
    have k5 : X.cell? ⟨w.heap.size + 1, 0, none⟩ = some (.bool false) := cell_at i1.res 0
    have k6 : X.frozen? ⟨w.heap.size + 1, 0, none⟩ = false := by simp [World.frozen?, i1.res]
    have hlen := len_any X.drew B db 9 #[] L a cap lent2 ed (hl2.below (Below.refl _ _).drew)
    have HI : Hid (AlSt w B db rb L a cap ed lent ra rc (enum L) X) := i1
    have HX : Hid (X.heap[W2.heap.size]? = some (.deferred (some []))) := hD
    have hk3 : (L.length : Int) ≤ 8192 := by omega
    have n1 : ¬ (rb = w.heap.size + 1) := by omega
    have n2 : ¬ (w.heap.size + 1 = rb) := by omega
    clear i1 hD hl2 hen
    gi_wp2_with fail
    refine wpIn_wide.2 ?_
    go_region_held3 (fun W => W.cell? ⟨w.heap.size, 0, none⟩ = some (.pointer (some ⟨rb, 0, none⟩)) ∧ W.cell? ⟨w.heap.size + 1 + 1, 0, none⟩ = some (.int .i64 (L.length : Int)) ∧ W.cell? ⟨rb, 0, none⟩ = some (.slice ra L.length rc)) (go_keep)
      (first | (refine hlen.mono ?_; rintro e w2 ⟨rfl, rfl⟩))
    obtain ⟨Y, hY⟩ : ∃ Y, (X.setCell ⟨w.heap.size + 1, 0, none⟩ (.bool true)).drew = Y := ⟨_, rfl⟩
    have far : ∀ k, k ≠ w.heap.size + 1 → Y.heap[k]? = X.heap[k]? := fun k hk => by rw [← hY]; exact Below.heap_setCell _ _ _ _ hk
    have c7 : Y.cell? ⟨w.heap.size + 1, 0, none⟩ = some (.bool true) := by
      have hz : Y.heap[w.heap.size + 1]? = some (.cells #[.bool true] 4 (0, 0)) := by rw [← hY]; simp [World.drew, World.setCell, Array.getElem?_modify, HI.out.res]
      exact cell_at hz 0
    have hD2 : Y.heap[w.heap.size + 4]? = some (.deferred (some [])) := by rw [← hs3]; exact (far _ (by omega)).trans HX.out
    have st : Stab w.heap.size (fun k => k = db) Y (Y.putObj (w.heap.size + 4) (.deferred none)) := Stab.put _ hD2 rfl (by omega)
    have HF : Hid ((∃ lent', (lent = true → lent' = true) ∧ LAt (Y.putObj (w.heap.size + 4) (.deferred none)) B db 9 #[] L a cap lent' ed) ∧ Turn (fun b => b = db) w (Y.putObj (w.heap.size + 4) (.deferred none))) := by
      obtain ⟨lent3, hlm3, hl3⟩ := HI.out.list
      obtain ⟨lent4, hlm4, hl4⟩ := (hl3.of_blocks (far db (by omega)) (fun k hk => far k (by have := HLr.out k hk; omega))).stab (fun _ e => e) st
      refine ⟨⟨lent4, fun e => hlm4 (hlm3 e), hl4⟩, turn_stab (fun _ e => e) (Nat.le_refl _) (X := Y) ?_ st⟩
      rw [← hY]
      have h3 := HI.out.turn
      exact ⟨h3.os, h3.tape, h3.output, by have := h3.size; simpa [World.setCell] using this, fun k hk hne => (Below.heap_setCell _ _ _ _ (by show k ≠ w.heap.size + 1; omega)).trans (h3.block k hk hne)⟩
    have HD2 : Hid (Y.heap[w.heap.size + 4]? = some (.deferred (some []))) := hD2
    have c8 : (Y.putObj (w.heap.size + 4) (.deferred none)).cell? ⟨w.heap.size + 1, 0, none⟩ = some (.bool true) := by
      rw [← c7]
      exact World.cell?_of_block (a := ⟨w.heap.size + 1, 0, none⟩) (World.putObj_heap_other (by show w.heap.size + 1 ≠ w.heap.size + 4; omega))
    rw [hY]
    clear hY far hD2 st
    gi_wp2
    refine ⟨by simp, .inl ⟨_, _, rfl, run_takeDeferred HD2.out, ?_⟩⟩
    have hres : Try.f11.results = #[.cell 4 4] := rfl
    refine ⟨.bool true, ?_, rfl, HF.out⟩
    simp only [results, hres]
    simp [go_sem, c8]
  case stop =>
    rintro c pre X hpre i1
    exact i1.elim

end Go.Proofs.Ytiggpbjgnododaa.T
