/- OrderedWhile: its walk. -/
import Derived.Test.YtiggpbjgnododaaTwh
import Derived.Test.YtiggpbjgnododaaRmk
import Derived.Sort.CutIn
namespace Go.Proofs.Ytiggpbjgnododaa.T
open Go.RowKit Go.Shelf
set_option linter.unusedVariables false
attribute [local go_sem] Oper.semAt_some

theorem at_alloc {w : World} {o : Obj} (k : Nat) (hk : k = w.heap.size) : (w.alloc o).heap[k]? = some o := by
  subst hk
  exact heap_alloc_new w o

/-- What the law begins with. -/
theorem W1.new (w : World) (wa : Option Addr) (wn wc : Nat) : W1 w wa wn wc ((((((w.alloc (.cells #[.slice wa wn wc] 22)).alloc (.cells #[.bool false] 4)).alloc (.cells #[.func (.func 9) #[] #[], .slice none 0 0, .bool false, .int .u64 0] 82)).alloc (.cells #[.pointer (some ⟨w.heap.size + 2, 0, none⟩)] 23)).alloc (.cells #[.slice none 0 0] 33)).alloc (.cells #[.pointer (some ⟨w.heap.size + 4, 0, none⟩)] 30)) := by
  have al : ∀ (X : World) (o : Obj) (k : Nat) (q : Obj), X.heap[k]? = some q → (X.alloc o).heap[k]? = some q := fun X o k q h => (Below.heap_alloc _ _ _ (Array.getElem?_eq_some_iff.1 h).1).trans h
  refine ⟨⟨?_, ?_, ?_, ?_, ?_⟩, [], none, 0, false, 0, none, 0, ⟨⟨⟨82, ?_⟩, ⟨by simp [cellsOf], .inl ⟨rfl, rfl⟩⟩, fun k hk => (by cases hk), Nat.zero_le _⟩, ⟨⟨33, ?_⟩, ⟨by simp [cellsOf], .inl ⟨rfl, rfl⟩⟩, fun k hk => (by cases hk), Nat.zero_le _⟩, by omega, fun k hk => (by cases hk), fun k hk => (by cases hk), fun k hk => (by cases hk)⟩, List.Pairwise.nil⟩
  · exact al _ _ _ _ (al _ _ _ _ (al _ _ _ _ (al _ _ _ _ (al _ _ _ _ (at_alloc _ rfl)))))
  · exact al _ _ _ _ (al _ _ _ _ (al _ _ _ _ (al _ _ _ _ (at_alloc _ (by simp)))))
  · exact al _ _ _ _ (al _ _ _ _ (at_alloc _ (by simp)))
  · exact at_alloc _ (by simp)
  · exact ((((((Below.refl _ w).alloc (Nat.le_refl _) _).alloc (by simp) _).alloc (by simp; omega) _).alloc (by simp; omega) _).alloc (by simp; omega) _).alloc (by simp; omega) _
  · exact al _ _ _ _ (al _ _ _ _ (al _ _ _ _ (at_alloc _ (by simp))))
  · exact al _ _ _ _ (at_alloc _ (by simp))

theorem sn_enum (L : List (Int × Int)) : sn (enum L) = L := by
  unfold sn
  apply List.ext_getElem?
  intro i
  simp only [enum, List.getElem?_map, List.getElem?_mapIdx, Option.map_map]
  cases L[i]? <;> rfl

theorem EdP.drewN {w u : World} {B db g : Nat} {caps : Array Value} {a : Option Addr} {n cap : Nat} {lent : Bool} {R : Value} {L' : List (Int × Int)} {e : Ending} (h : EdP w B db g caps a n cap lent R L' e u) (m : Nat) : EdP w B db g caps a n cap lent R L' e (u.drewN m) := by
  obtain ⟨h0, a', cap', lent', ed', h1, h2, h3, h4⟩ := h
  exact ⟨h0, a', cap', lent', ed', h1.below (bel_drewN' (Below.refl _ _) m), ⟨h2.os, h2.tape, h2.output, h2.size, h2.block⟩, h3, h4⟩

theorem ownF_do {db rb : Nat} {lent : Bool} {v : Value} (k : Nat) (h : OwnF db lent v k) : DoF db rb lent v k := by
  rcases h with h | h
  · exact .inl h
  · exact .inr (.inr h)

/-- What the range begins with, the list being lent. -/
theorem W2.start {w X Y V : World} {wa : Option Addr} {wn wc : Nat} {L : List (Int × Int)} {a : Option Addr} {cap : Nat} {lent : Bool} {ed : Int} {ra : Option Addr} {rc : Nat} {ta : Option Addr} {tc : Nat} (h0 : WS w wa wn wc X) (h1 : Both X w.heap.size (w.heap.size + 2) (w.heap.size + 4) L a cap lent ed ra rc) (h2 : Rise kf L) (hM : Mk X Y (.slice ta L.length tc) L.length (cellsOf L))
    (hV : Below (Y.heap.size + 4) ((((Y.alloc (.cells #[] 28)).alloc (.cells #[.slice ta L.length tc] 31)).alloc (.cells #[.slice (some ⟨Y.heap.size, 0, none⟩) 0 0] 31)).alloc (.cells #[.int .i64 0] 3)) V) :
    W2 w wa wn wc (Y.heap.size + 1) (Y.heap.size + 2) (Y.heap.size + 3) (fun k => (Value.slice a L.length cap).ownBlock = some k) L ta tc [] 0 (some ⟨Y.heap.size, 0, none⟩) 0 (V.setCell ⟨w.heap.size + 2, 2, none⟩ (.bool true)) := by
  have hs6 : w.heap.size + 6 ≤ X.heap.size := (Array.getElem?_eq_some_iff.1 h0.x5).1
  have hXY := hM.bel
  have hsY := hXY.size
  have al : ∀ (X : World) (o : Obj) (k : Nat) (q : Obj), X.heap[k]? = some q → (X.alloc o).heap[k]? = some q := fun X o k q h => (Below.heap_alloc _ _ _ (Array.getElem?_eq_some_iff.1 h).1).trans h
  obtain ⟨Z, hZ⟩ : ∃ Z, (((Y.alloc (.cells #[] 28)).alloc (.cells #[.slice ta L.length tc] 31)).alloc (.cells #[.slice (some ⟨Y.heap.size, 0, none⟩) 0 0] 31)).alloc (.cells #[.int .i64 0] 3) = Z := ⟨_, rfl⟩
  have z0 : Z.heap[Y.heap.size]? = some (.cells #[] 28 (0, 0)) := by rw [← hZ]; exact al _ _ _ _ (al _ _ _ _ (al _ _ _ _ (at_alloc _ rfl)))
  have z1 : Z.heap[Y.heap.size + 1]? = some (.cells #[.slice ta L.length tc] 31 (0, 0)) := by rw [← hZ]; exact al _ _ _ _ (al _ _ _ _ (at_alloc _ (by simp)))
  have z2 : Z.heap[Y.heap.size + 2]? = some (.cells #[.slice (some ⟨Y.heap.size, 0, none⟩) 0 0] 31 (0, 0)) := by rw [← hZ]; exact al _ _ _ _ (at_alloc _ (by simp))
  have z3 : Z.heap[Y.heap.size + 3]? = some (.cells #[.int .i64 0] 3 (0, 0)) := by rw [← hZ]; exact at_alloc _ (by simp)
  have hYZ : Below Y.heap.size Y Z := by rw [← hZ]; exact ((((Below.refl _ Y).alloc (Nat.le_refl _) _).alloc (by simp) _).alloc (by simp; omega) _).alloc (by simp; omega) _
  have hZs : Z.heap.size = Y.heap.size + 4 := by rw [← hZ]; simp
  rw [hZ] at hV
  have hYV : Below Y.heap.size Y V := hYZ.trans (hV.mono (by omega))
  have hXV : Below X.heap.size X V := hXY.trans (hYV.mono hsY)
  have hV4 := hV.size
  have far : ∀ k, k ≠ w.heap.size + 2 → (V.setCell ⟨w.heap.size + 2, 2, none⟩ (.bool true)).heap[k]? = V.heap[k]? := fun k hk => Below.heap_setCell _ _ _ _ hk
  have xb : ∀ {k : Nat} {o : Obj}, X.heap[k]? = some o → k ≠ w.heap.size + 2 → (V.setCell ⟨w.heap.size + 2, 2, none⟩ (.bool true)).heap[k]? = some o := fun hk hne => (far _ hne).trans ((hXV.block _ (Array.getElem?_eq_some_iff.1 hk).1).trans hk)
  have zb : ∀ {k : Nat} {o : Obj}, Z.heap[k]? = some o → k ≠ w.heap.size + 2 → (V.setCell ⟨w.heap.size + 2, 2, none⟩ (.bool true)).heap[k]? = some o := fun hk hne => (far _ hne).trans ((hV.block _ (by have := (Array.getElem?_eq_some_iff.1 hk).1; omega)).trans hk)
  have lr : ∀ k, (Value.slice a L.length cap).ownBlock = some k → k < X.heap.size := fun k hk => (own_block_lt h1.list.row k hk).2
  have rr : ∀ k, (Value.slice ra L.length rc).ownBlock = some k → k < X.heap.size := fun k hk => (own_block_lt h1.ref.row k hk).2
  have tr : ∀ k, (Value.slice ta L.length tc).ownBlock = some k → X.heap.size ≤ k ∧ k < Y.heap.size := fun k hk => own_block_lt hM.own k hk
  have hb := h0.bel.trans (hXV.mono h0.bel.size)
  refine ⟨⟨xb h0.x0 (by omega), xb h0.x1 (by omega), xb h0.x3 (by omega), xb h0.x5 (by omega), ⟨hb.os, hb.tape, hb.output, by simpa [World.setCell] using hb.size, fun k hk => (far k (by omega)).trans (hb.block k hk)⟩⟩, zb z1 (by omega), zb z2 (by omega), zb z3 (by omega), ?_, ⟨rfl, .inr ⟨Y.heap.size, 0, #[], rfl, by omega, zb z0 (by omega), Nat.le_refl _, Nat.zero_le _, rfl, rfl⟩⟩, ?_, L, a, cap, true, ed, ra, rc, ⟨(h1.list.below hXV).lent, ?_, h1.ne, h1.rowr, h1.rowd, h1.rows⟩, h2, fun k hk => ⟨fun _ => rfl, fun e => ?_, fun e => ?_⟩, fun k hk e => ?_⟩
  · exact own_base (own_of_block hM.own (fun k hk => (far k (by have := (tr k hk).1; omega)).trans (hYV.block k (tr k hk).2))) (fun k hk => by have := (tr k hk).1; omega)
  · intro k hk
    simp only [Value.ownBlock, Option.some.injEq] at hk
    subst hk
    exact ⟨fun e => by have := lr _ e; omega, fun e => by have := (tr _ e).2; omega⟩
  · exact (h1.ref.below hXV).of_blocks (far _ (by omega)) (fun k hk => far k (h1.rowd k hk))
  · have := lr k hk; have := (tr k e).1; omega
  · simp only [Value.ownBlock, Option.some.injEq] at e; have := lr k hk; omega
  · simp only [Value.ownBlock, Option.some.injEq] at e; have := rr k hk; omega

set_option maxRecDepth 100000 in
set_option maxHeartbeats 4000000 in
theorem while_walk (a : Option Addr) (n cap : Nat) (wa : Option Addr) (wn wc : Nat) (w : World) (h : IsActs w a n) (hw : IsActs w wa wn) (hn : n ≤ 4398046511104) (hwn : wn ≤ 4398046511104) :
    Calls Try.prog 4 #[.slice a n cap, .slice wa wn wc] w fun e w' => e = .returned (.bool true) ∧ Below w.heap.size w w' := by
  have hn' : (n : Int) ≤ 4398046511104 := by omega
  have hwn' : (wn : Int) ≤ 4398046511104 := by omega
  have hnew := new_any ((w.alloc (.cells #[.slice wa wn wc] 22)).alloc (.cells #[.bool false] 4)) 9 #[]
  have HA : Hid (IsActs w a n) := h
  have HWA : Hid (IsActs w wa wn) := hw
  have HP0 : Hid (W1 w wa wn wc _) := W1.new w wa wn wc
  clear h hw
  refine (callsIn_wide (n := 0)).1 ?_
  refine callsIn_of_wp_marks Try.func4 rfl trivial ?_ rfl
  simp only [Try.ntmps4, List.size_toArray, List.length_cons, List.length_nil, Nat.reduceAdd, Nat.reduceSub, Array.replicate_succ, Array.replicate_zero, List.push_toArray, List.append_toArray, List.nil_append, List.cons_append]
  gi_wp2_with fail
  refine ⟨trivial, rfl, (callsIn_wide.2 hnew).mono ?_⟩
  rintro e W2 ⟨rfl, rfl⟩
  clear hnew
  gi_wp2_with fail
  gi_loopw [8] (fun i wr => ∃ k : Nat, k ≤ n ∧ i = .int .i64 (k : Int) ∧ Hid (W1 w wa wn wc wr)) (fun i _ => n - (intOf i).toNat)
  case atStart => exact ⟨0, Nat.zero_le _, rfl, HP0⟩
  case round =>
    obtain ⟨k, hk, rfl, hP⟩ := hrel
    clear HP0
    by_cases hlt : k < n
    · obtain ⟨b, off, kind, stop, key, mark, rfl, hb, z0, z1, z2, z3⟩ := HA.out k hlt
      have hdo : ∀ u : WC (W1 w wa wn wc), Calls Try.prog 10 #[.pointer (some ⟨w.heap.size + 2, 0, none⟩), .pointer (some ⟨w.heap.size + 4, 0, none⟩), .agg #[.int .i64 kind, .int .i64 stop, .int .i64 key, .int .i64 mark]] u.w fun e Y => e = .returned (.bool true) ∧ W1 w wa wn wc Y := fun u => u.h.does kind stop (key, mark)
      have y0 : ∀ u : WC (W1 w wa wn wc), u.w.cell? ⟨b, off + k * 4, none⟩ = some (.int .i64 kind) := fun u => (u.h.1.bel.cell (p := ⟨b, off + k * 4, none⟩) hb).trans z0
      have y1 : ∀ u : WC (W1 w wa wn wc), u.w.cell? ⟨b, off + k * 4 + 1, none⟩ = some (.int .i64 stop) := fun u => (u.h.1.bel.cell (p := ⟨b, off + k * 4 + 1, none⟩) hb).trans z1
      have y2 : ∀ u : WC (W1 w wa wn wc), u.w.cell? ⟨b, off + k * 4 + 2, none⟩ = some (.int .i64 key) := fun u => (u.h.1.bel.cell (p := ⟨b, off + k * 4 + 2, none⟩) hb).trans z2
      have y3 : ∀ u : WC (W1 w wa wn wc), u.w.cell? ⟨b, off + k * 4 + 3, none⟩ = some (.int .i64 mark) := fun u => (u.h.1.bel.cell (p := ⟨b, off + k * 4 + 3, none⟩) hb).trans z3
      have y4 : ∀ u : WC (W1 w wa wn wc), u.w.cell? ⟨w.heap.size + 3, 0, none⟩ = some (.pointer (some ⟨w.heap.size + 2, 0, none⟩)) := fun u => cell_at u.h.1.x3 0
      have y5 : ∀ u : WC (W1 w wa wn wc), u.w.cell? ⟨w.heap.size + 5, 0, none⟩ = some (.pointer (some ⟨w.heap.size + 4, 0, none⟩)) := fun u => cell_at u.h.1.x5 0
      have hk1 : (k : Int) < (n : Int) := by omega
      have hk2 : (0 : Int) ≤ (k : Int) := by omega
      clear z0 z1 z2 z3
      gi_wp2_with fail
      refine wpIn_wide.2 ?_
      refine region_class (W1 w wa wn wc) (by kernel_rfl) (by kernel_rfl) hP.out.drew ?_
      intro hne
      repeat go_big_quiet_step ((exact Calls.wc_of (hdo _)))
      refine wpQuiet_nil ?_
      rintro _ ⟨u, rfl⟩
      have hPu : Hid (W1 w wa wn wc u.w) := u.h
      clear y0 y1 y2 y3 y4 y5 hdo hP
      gi_wp2
      go_roundw
      case rel => exact ⟨k + 1, by omega, by go_num, hPu⟩
      case measure => simp [intOf]; omega
    · obtain ⟨h0, L, a1, cap1, lent, ed, ra, rc, h1, h2⟩ := hP.out
      have hs6 : w.heap.size + 6 ≤ wr.heap.size := (Array.getElem?_eq_some_iff.1 h0.x5).1
      have c5 : wr.cell? ⟨w.heap.size + 1 + 1 + 1 + 1 + 1, 0, none⟩ = some (.pointer (some ⟨w.heap.size + 4, 0, none⟩)) := cell_at h0.x5 0
      have c4 : wr.cell? ⟨w.heap.size + 4, 0, none⟩ = some (.slice ra L.length rc) := h1.ref.head.cell 0
      have n5 : ¬ (w.heap.size + 1 + 1 + 1 + 1 + 1 = wr.heap.size) := by omega
      have n4 : ¬ (w.heap.size + 4 = wr.heap.size) := by omega
      have HB1 : Hid (Both wr w.heap.size (w.heap.size + 2) (w.heap.size + 4) L a1 cap1 lent ed ra rc) := h1
      have HWS : Hid (WS w wa wn wc wr) := h0
      have Hr : Hid (Rise kf L) := h2
      have hl8 := h1.list.len
      have H1 : Hid (∀ j u, (cellsOf L)[j]? = some u → ∃ ad, ra = some ad ∧ (wr.alloc (.cells #[] 28)).cell? (ad.add j) = some u) := by
        have := part_take h1.ref.row (bel1 wr (.cells #[] 28)) L.length
        rwa [List.take_length] at this
      have d5 : (wr.alloc (.cells #[] 28)).cell? ⟨w.heap.size + 5, 0, none⟩ = some (.pointer (some ⟨w.heap.size + 4, 0, none⟩)) := ((bel1 wr (.cells #[] 28)).cell (p := ⟨w.heap.size + 5, 0, none⟩) (by show w.heap.size + 5 < _; omega)).trans c5
      have d4 : (wr.alloc (.cells #[] 28)).cell? ⟨w.heap.size + 4, 0, none⟩ = some (.slice ra L.length rc) := ((bel1 wr (.cells #[] 28)).cell (p := ⟨w.heap.size + 4, 0, none⟩) (by show w.heap.size + 4 < _; omega)).trans c4
      have hd0 : decide ((k : Int) < (n : Int)) = false := by simp; omega
      clear h0 h1 h2 hP
      gi_upto_region 10 with fail
      refine wpIn_wide.2 ?_
      go_wp2_with (at_builtin; refine wpList_mk rfl _ _ rfl _ 0 [] (Mk.new wr) rfl ra L.length rc (cellsOf L) rfl (cellsOf_length L) H1.out (cellsOf_one L) (by omega) ?_; intro v1 Y m1; simp only [Nat.zero_add, List.nil_append] at m1; obtain ⟨ta, tc, rfl⟩ := own_slice m1.own; have M1 : Hid (Mk wr Y (.slice ta L.length tc) L.length (cellsOf L)) := m1; clear m1)
      obtain ⟨Z0, hZ0⟩ : ∃ Z0, (((Y.alloc (.cells #[] 28)).alloc (.cells #[.slice ta L.length tc] 31)).alloc (.cells #[.slice (some ⟨Y.heap.size, 0, none⟩) 0 0] 31)).alloc (.cells #[.int .i64 0] 3) = Z0 := ⟨_, rfl⟩
      have hY6 : w.heap.size + 6 ≤ Y.heap.size := Nat.le_trans hs6 M1.out.bel.size
      have hZs : Z0.heap.size = Y.heap.size + 4 := by rw [← hZ0]; simp
      have hYZ : Below Y.heap.size Y Z0 := by rw [← hZ0]; exact ((((Below.refl _ Y).alloc (Nat.le_refl _) _).alloc (by simp) _).alloc (by simp; omega) _).alloc (by simp; omega) _
      have hXZ : Below wr.heap.size wr Z0 := M1.out.bel.trans (hYZ.mono M1.out.bel.size)
      have e3 : Z0.cell? ⟨w.heap.size + 1 + 1 + 1, 0, none⟩ = some (.pointer (some ⟨w.heap.size + 2, 0, none⟩)) := cell_at ((hXZ.block _ (by show w.heap.size + 3 < _; omega)).trans HWS.out.x3) 0
      have hall := pall_any Z0 (some ⟨w.heap.size + 2, 0, none⟩)
      have HST : Hid (∀ V, Below (Y.heap.size + 4) Z0 V → W2 w wa wn wc (Y.heap.size + 1) (Y.heap.size + 1 + 1) (Y.heap.size + 1 + 1 + 1) (fun k => (Value.slice a1 L.length cap1).ownBlock = some k) L ta tc [] 0 (some ⟨Y.heap.size, 0, none⟩) 0 (V.setCell ⟨w.heap.size + 2, 2, none⟩ (.bool true))) := fun V hV => W2.start HWS.out HB1.out Hr.out M1.out (by rw [hZ0]; exact hV)
      have HL3 : Hid (LAt Z0 w.heap.size (w.heap.size + 2) 9 #[] L a1 cap1 lent ed) := HB1.out.list.below hXZ
      have HK : Hid (∀ k, (Value.slice a1 L.length cap1).ownBlock = some k → k < wr.heap.size ∧ k ≠ w.heap.size + 2 ∧ k ≠ w.heap.size + 4) := fun k hk => ⟨(own_block_lt HB1.out.list.row k hk).2, HB1.out.list.ne k hk, HB1.out.rowr k hk⟩
      rw [hZ0]
      have hsY : wr.heap.size ≤ Y.heap.size := M1.out.bel.size
      clear hZ0 hXZ hYZ c4 c5 d4 d5 M1 HB1 HWS H1
      gi_wp2_with fail
      refine ⟨trivial, rfl, (callsIn_wide.2 hall).mono ?_⟩
      rintro e Z ⟨rfl, rfl⟩
      clear hall
      have e7 : Hid ((Z0.alloc (.cells #[.pointer (some ⟨w.heap.size + 2, 0, none⟩)] 23)).heap[Y.heap.size + 4]? = some (.cells #[.pointer (some ⟨w.heap.size + 2, 0, none⟩)] 23 (0, 0))) := at_alloc _ (by omega)
      have hb7 : Hid (Below (Y.heap.size + 4) Z0 (Z0.alloc (.cells #[.pointer (some ⟨w.heap.size + 2, 0, none⟩)] 23))) := by show Below _ _ _; rw [← hZs]; exact bel1 Z0 _
      have hs7 : (Z0.alloc (.cells #[.pointer (some ⟨w.heap.size + 2, 0, none⟩)] 23)).heap.size = Y.heap.size + 5 := by simp; omega
      have HL7 : Hid (LAt (Z0.alloc (.cells #[.pointer (some ⟨w.heap.size + 2, 0, none⟩)] 23)) w.heap.size (w.heap.size + 2) 9 #[] L a1 cap1 lent ed) := HL3.out.below (bel1 Z0 _)
      generalize Z0.alloc (.cells #[.pointer (some ⟨w.heap.size + 2, 0, none⟩)] 23) = Z at *
      rw [hZs]
      gi_wp2_with fail
      have eg : ∀ args w, (callFunc 47 args).run Try.prog w = .ok (.enter 47 args) w := enters_of Try.func47 (by kernel_rfl) rfl
      refine range_mark (gf := 47) (lb := #[.pointer (some ⟨Y.heap.size + 4, 0, none⟩)]) rfl eg (encs := enc2) (fun _ => rfl) (xs := enum L) (K := fun k => (Value.slice a1 L.length cap1).ownBlock = some k) (M := fun k => k = w.heap.size + 2)
        (fun k hk => by have := HK.out k hk; omega) (fun k hk => by omega) (db := w.heap.size + 2) (by omega)
        (fun X hX hXs => all_marks _ _ _ (Y.heap.size + 4) X w.heap.size (w.heap.size + 2) 9 #[] L a1 cap1 lent ed ((hX.cell (p := ⟨Y.heap.size + 4, 0, none⟩) (by show Y.heap.size + 4 < _; omega)).trans (cell_at e7.out 0)) (HL7.out.below hX) rfl (fun _ h => h))
        (fun pre X => Z.heap.size ≤ X.heap.size ∧ ∃ m ga gc, m ≤ wn ∧ W2 w wa wn wc (Y.heap.size + 1) (Y.heap.size + 1 + 1) (Y.heap.size + 1 + 1 + 1) (fun k => (Value.slice a1 L.length cap1).ownBlock = some k) L ta tc (sn pre) m ga gc X)
        (fun c pre X => False)
        (fun s X Y' hI st => by obtain ⟨hsz, m, ga, gc, h1, h2⟩ := hI; exact ⟨Nat.le_trans hsz st.size, m, ga, gc, h1, h2.stab (by omega) (by omega) (by omega) (fun _ e => e) (by omega) st⟩)
        (fun c s X Y' hI st => hI)
        (fun V hV => ⟨by simpa [World.setCell] using hV.size, 0, _, 0, Nat.zero_le _, HST.out V (hb7.out.trans (hV.mono (by omega)))⟩)
        (fun y a' X => ∃ xb, X.heap[xb]? = some (.cells #[.int .i64 y.2.1, .int .i64 y.2.2] 28 (0, 0)) ∧ xb ≠ w.heap.size + 2 ∧ a' = { tmps := #[.slice a n cap, .slice wa wn wc, undef, .pointer (some ⟨w.heap.size, 0, none⟩), .pointer (some ⟨w.heap.size + 1, 0, none⟩), .pointer (some ⟨w.heap.size + 1 + 1 + 1, 0, none⟩), .int .i64 0, .pointer (some ⟨w.heap.size + 1 + 1 + 1 + 1 + 1, 0, none⟩), .int .i64 (k : Int), .pointer (some ⟨Y.heap.size + 1, 0, none⟩), .pointer (some ⟨Y.heap.size + 1 + 1, 0, none⟩), .pointer (some ⟨Y.heap.size + 1 + 1 + 1, 0, none⟩), undef, .pointer (some ⟨xb, 0, none⟩), undef, .tuple #[.pointer (some ⟨w.heap.size + 1 + 1, 0, none⟩), .int .i64 0], .tuple #[.pointer (some ⟨w.heap.size + 1 + 1, 0, none⟩), .int .i64 0], .pointer (some ⟨w.heap.size + 1 + 1, 0, none⟩), .int .i64 0, .agg #[.slice none 0 0], .pointer (some ⟨w.heap.size + 1 + 1 + 1 + 1, 0, none⟩), .pointer (some ⟨w.heap.size + 1 + 1, 0, none⟩), .bool false, .bool false, .int .i64 0, .bool false, .bool false, .int .i64 (k : Int), .slice a n cap, .int .i64 (n : Int), .bool false, u31, u32, u33, u34, u35, u36, u37, u38, u39, u40, .slice (some ⟨wr.heap.size, 0, none⟩) 0 0, .pointer (some ⟨w.heap.size + 4, 0, none⟩), .pointer (some ⟨w.heap.size + 4, 0, none⟩), .pointer (some ⟨w.heap.size + 4, 0, none⟩), .slice ra L.length rc, .slice ta L.length tc, .slice (some ⟨Y.heap.size, 0, none⟩) 0 0, .pointer (some ⟨w.heap.size + 2, 0, none⟩), .func (.func 47) #[] #[.pointer (some ⟨Y.heap.size + 4, 0, none⟩)], .int .i64 (y.1 : Int), .agg #[.int .i64 y.2.1, .int .i64 y.2.2], undef, undef, undef, undef, undef, undef, undef, undef, undef, undef, undef, undef, undef, undef, undef, undef, undef, undef, undef, undef, undef, undef, undef, undef, undef, undef, undef, undef, undef, undef, undef, undef, undef, undef, undef, undef, undef, undef, undef, undef, undef, undef, undef, undef, undef, undef, undef, undef, undef], defers := [] })
        (fun y a' X Y' hX st => by obtain ⟨xb, h1, h2, h3⟩ := hX; exact ⟨xb, st.same h1 h2 (.inr rfl), h2, h3⟩)
        ?assign ?body ?done ?stop
      case assign =>
        rintro l2 pre y X Kc ⟨hXN, m, ga, gc, hm, i1⟩ hK
        have hXs : w.heap.size + 6 ≤ X.heap.size := (Array.getElem?_eq_some_iff.1 i1.ws.x5).1
        have HI : Hid (W2 w wa wn wc (Y.heap.size + 1) (Y.heap.size + 1 + 1) (Y.heap.size + 1 + 1 + 1) (fun k => (Value.slice a1 L.length cap1).ownBlock = some k) L ta tc (sn pre) m ga gc X) := i1
        clear i1
        unfold enc2
        gi_wp2
        exact hK _ _ (Kp.of_turn ((Turn.refl (fun _ => False) X).alloc _) (fun _ _ e => e.elim)) ⟨by simp; omega, m, ga, gc, hm, HI.out.below (by omega) (by omega) (by omega) (bel1 _ _)⟩ ⟨X.heap.size, heap_alloc_new X _, by omega, rfl⟩
      case body =>
        rintro l2 pre ⟨i, y⟩ a' X hpre ⟨hXN, m, ga, gc, hm, i1⟩ ⟨xb, hxb, hxd, rfl⟩
        have hlt := (List.getElem?_eq_some_iff.1 (enum_pre hpre).2).1
        have HSn : Hid (sn (pre ++ [(i, y)]) = sn pre ++ [y]) := sn_snoc pre (i, y)
        have HGn : Hid ((sn pre ++ [y]).length ≤ L.length) := by show _ ≤ _; simp [sn]; omega
        dsimp only at hxb ⊢
        have hG8 : (sn pre).length < 8192 := by simp [sn]; omega
        generalize sn pre = G at *
        have k0 : X.cell? ⟨xb, 0, none⟩ = some (.int .i64 y.1) := cell_at hxb 0
        have k1 : X.cell? ⟨xb, 1, none⟩ = some (.int .i64 y.2) := cell_at hxb 1
        have k2 : X.cell? ⟨Y.heap.size + 1 + 1, 0, none⟩ = some (.slice ga G.length gc) := cell_at i1.x10 0
        have hX3 : Y.heap.size + 4 ≤ X.heap.size := (Array.getElem?_eq_some_iff.1 i1.x11).1
        have HI : Hid (W2 w wa wn wc (Y.heap.size + 1) (Y.heap.size + 1 + 1) (Y.heap.size + 1 + 1 + 1) (fun k => (Value.slice a1 L.length cap1).ownBlock = some k) L ta tc G m ga gc X) := i1
        have HGR : Hid (X.ownsRow (w.heap.size + 6) 28 2 (.slice ga G.length gc) G.length (cellsOf G)) := i1.grow
        have hinfo : ∃ i0, Try.prog.info? 28 = some i0 ∧ i0.zero = some (.agg #[.int .i64 0, .int .i64 0]) ∧ i0.size = 2 ∧ i0.bytes = 16 := infoE.parts
        obtain ⟨i0, hi0, hz0, hz1, hz2⟩ := hinfo
        have hfin : ∀ Y' ga' gc', Y'.ownsRow (w.heap.size + 6) 28 2 (.slice ga' (G.length + 1) gc') (G.length + 1) (cellsOf G ++ [.int .i64 y.1, .int .i64 y.2]) → (X.alloc (.cells #[.int .i64 y.1, .int .i64 y.2] 28)).grownBy Y' (Value.slice ga G.length gc).ownBlock →
            ((Value.slice ga' (G.length + 1) gc').ownBlock = (Value.slice ga G.length gc).ownBlock ∨ (Value.slice ga' (G.length + 1) gc').ownBlock = some (X.alloc (.cells #[.int .i64 y.1, .int .i64 y.2] 28)).heap.size) →
            Y'.cell? ⟨Y.heap.size + 1 + 1, 0, none⟩ = some (.slice ga G.length gc) ∧ Y'.frozen? ⟨Y.heap.size + 1 + 1, 0, none⟩ = false ∧
            Hid (W2 w wa wn wc (Y.heap.size + 1) (Y.heap.size + 1 + 1) (Y.heap.size + 1 + 1 + 1) (fun k => (Value.slice a1 L.length cap1).ownBlock = some k) L ta tc (G ++ [y]) m ga' gc' (Y'.setCell ⟨Y.heap.size + 1 + 1, 0, none⟩ (.slice ga' (G.length + 1) gc')) ∧ Kp Z.heap.size (fun k => (Value.slice a1 L.length cap1).ownBlock = some k) Z.heap.size X (Y'.setCell ⟨Y.heap.size + 1 + 1, 0, none⟩ (.slice ga' (G.length + 1) gc'))) := by
          intro Y' ga' gc' q1 q2 q3
          have b3 : Y'.heap[Y.heap.size + 1 + 1]? = some (.cells #[.slice ga G.length gc] 31 (0, 0)) := (q2.block _ (by simp; omega) (fun e => by
            obtain ⟨cs, hc⟩ := own_cells HGR.out e.symm
            rw [HI.out.x10] at hc
            simp at hc)).trans ((Below.heap_alloc _ _ _ (by omega)).trans HI.out.x10)
          exact ⟨cell_at b3 0, by simp [World.frozen?, b3], HI.out.app (by omega) (by omega) (by omega) (by omega) (by omega) (by omega) (fun hx => by have := HK.out _ hx; omega) hXN (fun k hk => by have := HK.out k hk; omega) q1 q2 q3⟩
        clear i1 hxb
        gi_upto_region 14 with (gi_at_builtin; go_must (refine wpListIn_append_own_at _ rfl _ _ 31 rfl (w.heap.size + 6) 28 i0 _ 2 16 Try.underlying31 hi0 hz0 hz1 hz2 rfl (by decide) (.slice ga G.length gc) G.length (cellsOf G) rfl (HGR.out.alloc _) ⟨X.heap.size, 0, none⟩ 1 1 [.int .i64 y.1, .int .i64 y.2] rfl rfl (fun j u hu => by obtain ⟨ad, e1, e2⟩ := two_at (isCells_new X #[.int .i64 y.1, .int .i64 y.2] 28) j u hu; cases e1; exact e2) (by intro u hu; simp at hu; rcases hu with rfl | rfl <;> rfl) (by unfold maxLen; omega) (by omega) (by simp; omega) ?_; intro v' Y' q1 q2 q3 q4; obtain ⟨ga', gc', rfl⟩ := own_slice q1; obtain ⟨s1, s2, s4⟩ := hfin Y' ga' gc' q1 q2 q4; clear q1 q2 q3 q4 hfin))
        clear s1 s2 k0 k1 k2
        generalize Y'.setCell ⟨Y.heap.size + 1 + 1, 0, none⟩ (.slice ga' (G.length + 1) gc') = X2 at *
        obtain ⟨g1, hg1⟩ : ∃ g1, Hid ((G ++ [y]).length = g1) := ⟨_, rfl⟩
        rw [hg1.out] at HGn
        have f0 : X2.cell? ⟨w.heap.size, 0, none⟩ = some (.slice wa wn wc) := cell_at s4.out.1.ws.x0 0
        have f11 : X2.cell? ⟨Y.heap.size + 1 + 1 + 1, 0, none⟩ = some (.int .i64 (m : Int)) := cell_at s4.out.1.x11 0
        have hm0 : (0 : Int) ≤ (m : Int) := by omega
        by_cases hmw : m < wn
        · have dm : decide ((m : Int) < (wn : Int)) = true := by simp; omega
          have hmw' : (m : Int) < (wn : Int) := by omega
          obtain ⟨b, off, kind, stop, key, mark, rfl, hb, z0, z1, z2, z3⟩ := HWA.out m hmw
          obtain ⟨C, hCd⟩ : ∃ C : World → Prop, C = fun X3 => W2 w (some ⟨b, off, none⟩) wn wc (Y.heap.size + 1) (Y.heap.size + 1 + 1) (Y.heap.size + 1 + 1 + 1) (fun k => (Value.slice a1 L.length cap1).ownBlock = some k) L ta tc (G ++ [y]) m ga' gc' X3 ∧ Kp Z.heap.size (fun k => (Value.slice a1 L.length cap1).ownBlock = some k) Z.heap.size X X3 := ⟨_, rfl⟩
          have hCX : C X2.drew := by
            rw [hCd]
            exact ⟨s4.out.1.below (by omega) (by omega) (by omega) (Below.refl _ _).drew, s4.out.2.size, s4.out.2.keep⟩
          have hCi : ∀ X3, C X3 → W2 w (some ⟨b, off, none⟩) wn wc (Y.heap.size + 1) (Y.heap.size + 1 + 1) (Y.heap.size + 1 + 1 + 1) (fun k => (Value.slice a1 L.length cap1).ownBlock = some k) L ta tc (G ++ [y]) m ga' gc' X3 ∧ Kp Z.heap.size (fun k => (Value.slice a1 L.length cap1).ownBlock = some k) Z.heap.size X X3 := by
            rw [hCd]
            exact fun _ h => h
          have hCo : ∀ X3, (W2 w (some ⟨b, off, none⟩) wn wc (Y.heap.size + 1) (Y.heap.size + 1 + 1) (Y.heap.size + 1 + 1 + 1) (fun k => (Value.slice a1 L.length cap1).ownBlock = some k) L ta tc (G ++ [y]) m ga' gc' X3 ∧ Kp Z.heap.size (fun k => (Value.slice a1 L.length cap1).ownBlock = some k) Z.heap.size X X3) → C X3 := by
            rw [hCd]
            exact fun _ h => h
          have hC1 : ∀ u : WC C, W2 w (some ⟨b, off, none⟩) wn wc (Y.heap.size + 1) (Y.heap.size + 1 + 1) (Y.heap.size + 1 + 1 + 1) (fun k => (Value.slice a1 L.length cap1).ownBlock = some k) L ta tc (G ++ [y]) m ga' gc' u.w ∧ Kp Z.heap.size (fun k => (Value.slice a1 L.length cap1).ownBlock = some k) Z.heap.size X u.w := fun u => hCi u.w u.h
          have hdo : ∀ u : WC C, Calls Try.prog 10 #[.pointer (some ⟨w.heap.size + 2, 0, none⟩), .pointer (some ⟨w.heap.size + 4, 0, none⟩), .agg #[.int .i64 kind, .int .i64 stop, .int .i64 key, .int .i64 mark]] u.w fun e Y' => e = .returned (.bool true) ∧ C Y' := fun u => by
            refine ((hC1 u).1.does (N := Z.heap.size) (by omega) (by omega) (by omega) (by omega) (Nat.le_trans hXN (hC1 u).2.size) (fun k hk => by have := HK.out k hk; exact ⟨by omega, this.2⟩) kind stop (key, mark)).mono ?_
            rintro e Y' ⟨he, q1, q2⟩
            exact ⟨he, hCo _ ⟨q1, (hC1 u).2.trans q2⟩⟩
          have y0 : ∀ u : WC C, u.w.cell? ⟨b, off + m * 4, none⟩ = some (.int .i64 kind) := fun u => ((hC1 u).1.ws.bel.cell (p := ⟨b, off + m * 4, none⟩) hb).trans z0
          have y1 : ∀ u : WC C, u.w.cell? ⟨b, off + m * 4 + 1, none⟩ = some (.int .i64 stop) := fun u => ((hC1 u).1.ws.bel.cell (p := ⟨b, off + m * 4 + 1, none⟩) hb).trans z1
          have y2 : ∀ u : WC C, u.w.cell? ⟨b, off + m * 4 + 2, none⟩ = some (.int .i64 key) := fun u => ((hC1 u).1.ws.bel.cell (p := ⟨b, off + m * 4 + 2, none⟩) hb).trans z2
          have y3 : ∀ u : WC C, u.w.cell? ⟨b, off + m * 4 + 3, none⟩ = some (.int .i64 mark) := fun u => ((hC1 u).1.ws.bel.cell (p := ⟨b, off + m * 4 + 3, none⟩) hb).trans z3
          have y4 : ∀ u : WC C, u.w.cell? ⟨w.heap.size + 1 + 1 + 1, 0, none⟩ = some (.pointer (some ⟨w.heap.size + 2, 0, none⟩)) := fun u => cell_at (hC1 u).1.ws.x3 0
          have y5 : ∀ u : WC C, u.w.cell? ⟨w.heap.size + 1 + 1 + 1 + 1 + 1, 0, none⟩ = some (.pointer (some ⟨w.heap.size + 4, 0, none⟩)) := fun u => cell_at (hC1 u).1.ws.x5 0
          have y6 : ∀ u : WC C, u.w.cell? ⟨w.heap.size, 0, none⟩ = some (.slice (some ⟨b, off, none⟩) wn wc) := fun u => cell_at (hC1 u).1.ws.x0 0
          have y7 : ∀ u : WC C, u.w.cell? ⟨Y.heap.size + 1 + 1 + 1, 0, none⟩ = some (.int .i64 (m : Int)) := fun u => cell_at (hC1 u).1.x11 0
          have HC1 : Hid (∀ u : WC C, W2 w (some ⟨b, off, none⟩) wn wc (Y.heap.size + 1) (Y.heap.size + 1 + 1) (Y.heap.size + 1 + 1 + 1) (fun k => (Value.slice a1 L.length cap1).ownBlock = some k) L ta tc (G ++ [y]) m ga' gc' u.w ∧ Kp Z.heap.size (fun k => (Value.slice a1 L.length cap1).ownBlock = some k) Z.heap.size X u.w) := hC1
          clear z0 z1 z2 z3 hCd hC1 hCi hCo
          by_cases hkd : kind ≤ 1
          · have dk : decide (kind ≤ 1) = true := by simpa using hkd
            gi_wp2_with fail
            refine region_class_round C (by kernel_rfl) (by kernel_rfl) (by kernel_rfl) hCX ?_
            intro hne
            repeat go_big_quiet_step ((exact Calls.wc_of (hdo _)))
            refine wpQuiet_nil ?_
            rintro _ ⟨u, rfl⟩
            have HU : Hid (W2 w (some ⟨b, off, none⟩) wn wc (Y.heap.size + 1) (Y.heap.size + 1 + 1) (Y.heap.size + 1 + 1 + 1) (fun k => (Value.slice a1 L.length cap1).ownBlock = some k) L ta tc (G ++ [y]) m ga' gc' u.w ∧ Kp Z.heap.size (fun k => (Value.slice a1 L.length cap1).ownBlock = some k) Z.heap.size X u.w) := HC1.out u
            clear y0 y1 y2 y3 y4 y5 y6 y7 hdo HC1
            generalize u.w = X3 at *
            have f11' : X3.cell? ⟨Y.heap.size + 1 + 1 + 1, 0, none⟩ = some (.int .i64 (m : Int)) := cell_at HU.out.1.x11 0
            have f12 : X3.frozen? ⟨Y.heap.size + 1 + 1 + 1, 0, none⟩ = false := by simp [World.frozen?, HU.out.1.x11]
            have hcnt : Hid (W2 w (some ⟨b, off, none⟩) wn wc (Y.heap.size + 1) (Y.heap.size + 1 + 1) (Y.heap.size + 1 + 1 + 1) (fun k => (Value.slice a1 L.length cap1).ownBlock = some k) L ta tc (G ++ [y]) (m + 1) ga' gc' (X3.setCell ⟨Y.heap.size + 1 + 1 + 1, 0, none⟩ (.int .i64 ((m : Int) + 1))) ∧ Kp Z.heap.size (fun k => (Value.slice a1 L.length cap1).ownBlock = some k) Z.heap.size X (X3.setCell ⟨Y.heap.size + 1 + 1 + 1, 0, none⟩ (.int .i64 ((m : Int) + 1)))) := by
              obtain ⟨r1, r2⟩ := HU.out.1.count (N := Z.heap.size) (by omega) (by omega) (by omega) (by omega) (by omega) (by omega) (fun hx => by have := HK.out _ hx; omega) (.int .i64 ((m : Int) + 1)) (v_int (by omega))
              exact ⟨r1, HU.out.2.trans r2⟩
            gi_upto_region 18 with fail
            generalize X3.setCell ⟨Y.heap.size + 1 + 1 + 1, 0, none⟩ (.int .i64 ((m : Int) + 1)) = X4 at *
            have g0 : g1 ≤ L.length := by have := HGn.out; omega
            have f9 : X4.cell? ⟨Y.heap.size + 1, 0, none⟩ = some (.slice ta L.length tc) := cell_at hcnt.out.1.x9 0
            have f10 : X4.cell? ⟨Y.heap.size + 1 + 1, 0, none⟩ = some (.slice ga' g1 gc') := by rw [← hg1.out]; exact cell_at hcnt.out.1.x10 0
            have dg : decide ((L.length : Int) < (g1 : Int)) = false := by simp; omega
            have dg' : decide (L.length < g1) = false := by simp; omega
            clear hpre HGn
            gi_wp2
            refine ⟨hcnt.out.2, Nat.le_trans hXN hcnt.out.2.size, m + 1, ga', gc', by omega, ?_⟩
            rw [HSn.out]
            exact hcnt.out.1
          · have dk : decide (kind ≤ 1) = false := by simpa using hkd
            gi_wp2_with fail
            refine region_class_round C (by kernel_rfl) (by kernel_rfl) (by kernel_rfl) hCX ?_
            intro hne
            repeat go_big_quiet_step ((exact Calls.wc_of (hdo _)))
            refine wpQuiet_nil ?_
            rintro _ ⟨u, rfl⟩
            have HU : Hid (W2 w (some ⟨b, off, none⟩) wn wc (Y.heap.size + 1) (Y.heap.size + 1 + 1) (Y.heap.size + 1 + 1 + 1) (fun k => (Value.slice a1 L.length cap1).ownBlock = some k) L ta tc (G ++ [y]) m ga' gc' u.w ∧ Kp Z.heap.size (fun k => (Value.slice a1 L.length cap1).ownBlock = some k) Z.heap.size X u.w) := HC1.out u
            clear y0 y1 y2 y3 y4 y5 y6 y7 hdo HC1
            generalize u.w = X3 at *
            have f11' : X3.cell? ⟨Y.heap.size + 1 + 1 + 1, 0, none⟩ = some (.int .i64 (m : Int)) := cell_at HU.out.1.x11 0
            have f12 : X3.frozen? ⟨Y.heap.size + 1 + 1 + 1, 0, none⟩ = false := by simp [World.frozen?, HU.out.1.x11]
            have hcnt : Hid (W2 w (some ⟨b, off, none⟩) wn wc (Y.heap.size + 1) (Y.heap.size + 1 + 1) (Y.heap.size + 1 + 1 + 1) (fun k => (Value.slice a1 L.length cap1).ownBlock = some k) L ta tc (G ++ [y]) (m + 1) ga' gc' (X3.setCell ⟨Y.heap.size + 1 + 1 + 1, 0, none⟩ (.int .i64 ((m : Int) + 1))) ∧ Kp Z.heap.size (fun k => (Value.slice a1 L.length cap1).ownBlock = some k) Z.heap.size X (X3.setCell ⟨Y.heap.size + 1 + 1 + 1, 0, none⟩ (.int .i64 ((m : Int) + 1)))) := by
              obtain ⟨r1, r2⟩ := HU.out.1.count (N := Z.heap.size) (by omega) (by omega) (by omega) (by omega) (by omega) (by omega) (fun hx => by have := HK.out _ hx; omega) (.int .i64 ((m : Int) + 1)) (v_int (by omega))
              exact ⟨r1, HU.out.2.trans r2⟩
            gi_upto_region 18 with fail
            generalize X3.setCell ⟨Y.heap.size + 1 + 1 + 1, 0, none⟩ (.int .i64 ((m : Int) + 1)) = X4 at *
            have g0 : g1 ≤ L.length := by have := HGn.out; omega
            have f9 : X4.cell? ⟨Y.heap.size + 1, 0, none⟩ = some (.slice ta L.length tc) := cell_at hcnt.out.1.x9 0
            have f10 : X4.cell? ⟨Y.heap.size + 1 + 1, 0, none⟩ = some (.slice ga' g1 gc') := by rw [← hg1.out]; exact cell_at hcnt.out.1.x10 0
            have dg : decide ((L.length : Int) < (g1 : Int)) = false := by simp; omega
            have dg' : decide (L.length < g1) = false := by simp; omega
            clear hpre HGn
            gi_wp2
            refine ⟨hcnt.out.2, Nat.le_trans hXN hcnt.out.2.size, m + 1, ga', gc', by omega, ?_⟩
            rw [HSn.out]
            exact hcnt.out.1
        · have dm : decide ((m : Int) < (wn : Int)) = false := by simp; omega
          have dm' : decide (m < wn) = false := by simp; omega
          have g0 : g1 ≤ L.length := by have := HGn.out; omega
          have f9 : X2.cell? ⟨Y.heap.size + 1, 0, none⟩ = some (.slice ta L.length tc) := cell_at s4.out.1.x9 0
          have f10 : X2.cell? ⟨Y.heap.size + 1 + 1, 0, none⟩ = some (.slice ga' g1 gc') := by rw [← hg1.out]; exact cell_at s4.out.1.x10 0
          have dg : decide ((L.length : Int) < (g1 : Int)) = false := by simp; omega
          have dg' : decide (L.length < g1) = false := by simp; omega
          clear hpre HGn
          gi_wp2
          refine ⟨s4.out.2, Nat.le_trans hXN s4.out.2.size, m, ga', gc', by omega, ?_⟩
          rw [HSn.out]
          exact s4.out.1

      case done =>
        rintro X ⟨hXN, m, ga, gc, hm, i1⟩ hD
        rw [sn_enum] at i1
        obtain ⟨L', a', cap', lent', ed', ra', rc', p1, p2, p3, p4⟩ := i1.pair
        have hXs := i1.ws.bel.size
        obtain ⟨pe1, pe2, pe3⟩ := putE_eq p2 (1099511627776, 0)
        have HT : ∀ u, Turn (DoF (w.heap.size + 2) (w.heap.size + 4) lent' (.slice a' L'.length cap')) X u → (u.cell? ⟨w.heap.size + 1 + 1 + 1, 0, none⟩ = some (.pointer (some ⟨w.heap.size + 2, 0, none⟩)) ∧ u.cell? ⟨w.heap.size + 1 + 1 + 1 + 1 + 1, 0, none⟩ = some (.pointer (some ⟨w.heap.size + 4, 0, none⟩)) ∧ u.cell? ⟨Y.heap.size + 1, 0, none⟩ = some (.slice ta L.length tc) ∧ u.cell? ⟨Y.heap.size + 1 + 1, 0, none⟩ = some (.slice ga L.length gc) ∧ u.cell? ⟨w.heap.size + 1, 0, none⟩ = some (.bool false) ∧ u.frozen? ⟨w.heap.size + 1, 0, none⟩ = false) ∧ Sg u ga L ∧ Sg u ta L ∧ u.heap[Z.heap.size]? = some (.deferred (some [])) ∧ Below w.heap.size w u := by
          intro u tu
          have ws := i1.ws.does p1 tu
          have b9 := doP_box p1 tu i1.x9 (by omega) (by omega) (by decide)
          have b10 := doP_box p1 tu i1.x10 (by omega) (by omega) (by decide)
          have far : ∀ (v : Value) (n : Nat) (xs : List Value), X.ownsRow (w.heap.size + 6) 28 2 v n xs → (∀ k, (Value.slice a' L'.length cap').ownBlock = some k → v.ownBlock ≠ some k) → u.ownsRow (w.heap.size + 6) 28 2 v n xs := fun v n xs hv hne => own_of_block hv (fun k hk => tu.block k (own_block_lt hv k hk).2 (by
            have := (own_block_lt hv k hk).1
            rintro (e | e | ⟨_, e⟩)
            · omega
            · omega
            · exact hne k e hk))
          refine ⟨⟨cell_at ws.x3 0, cell_at ws.x5 0, cell_at b9 0, cell_at b10 0, cell_at ws.x1 0, by simp [World.frozen?, ws.x1]⟩, sg_of_own (far _ _ _ i1.grow (fun k hk => (p3 k hk).2.2)) rfl, sg_of_own (far _ _ _ i1.wrow (fun k hk => (p3 k hk).2.1)) rfl, ?_, ws.bel⟩
          refine (tu.block _ (Array.getElem?_eq_some_iff.1 hD).1 ?_).trans hD
          rintro (e | e | ⟨_, e⟩)
          · omega
          · omega
          · obtain ⟨cs, hc⟩ := own_cells p1.list.row e
            rw [hD] at hc
            cases hc
        have c14 : Calls Try.prog 14 #[.pointer (some ⟨w.heap.size + 2, 0, none⟩), .agg #[.int .i64 1099511627776, .int .i64 0]] X fun e u => e = .returned (.int .i64 (rputE L' (1099511627776, 0))) ∧ (u.cell? ⟨w.heap.size + 1 + 1 + 1, 0, none⟩ = some (.pointer (some ⟨w.heap.size + 2, 0, none⟩)) ∧ u.cell? ⟨w.heap.size + 1 + 1 + 1 + 1 + 1, 0, none⟩ = some (.pointer (some ⟨w.heap.size + 4, 0, none⟩)) ∧ u.cell? ⟨Y.heap.size + 1, 0, none⟩ = some (.slice ta L.length tc) ∧ u.cell? ⟨Y.heap.size + 1 + 1, 0, none⟩ = some (.slice ga L.length gc) ∧ u.cell? ⟨w.heap.size + 1, 0, none⟩ = some (.bool false) ∧ u.frozen? ⟨w.heap.size + 1, 0, none⟩ = false) ∧ Hid (EdP X w.heap.size (w.heap.size + 2) 9 #[] a' L'.length cap' lent' (.int .i64 (rputE L' (1099511627776, 0))) (rputL L' (1099511627776, 0)) (.returned (.int .i64 (rputE L' (1099511627776, 0)))) u) := by
          refine (put_any X w.heap.size (w.heap.size + 2) 9 #[] L' a' cap' lent' ed' (ltK kf) (fun _ => True) (1099511627776, 0) (rk kf L' 1099511627776) p1.list hXs (byKey_is _) trivial (fun _ _ => trivial) (cut_of p2 (1099511627776, 0))).mono ?_
          intro e u hu
          rw [pe1, pe2] at hu
          have he := hu.1
          subst he
          obtain ⟨-, _, _, _, _, -, q2, -, -⟩ := id hu
          exact ⟨rfl, (HT u (Turn.weak q2 ownF_do)).1, hu⟩
        have c15 : ∀ u0, Hid (EdP X w.heap.size (w.heap.size + 2) 9 #[] a' L'.length cap' lent' (.int .i64 (rputE L' (1099511627776, 0))) (rputL L' (1099511627776, 0)) (.returned (.int .i64 (rputE L' (1099511627776, 0)))) u0) → Calls Try.prog 15 #[.slice ga L.length gc, .slice ta L.length tc] u0 fun e u => e = .returned (.bool true) ∧ (u.cell? ⟨w.heap.size + 1 + 1 + 1, 0, none⟩ = some (.pointer (some ⟨w.heap.size + 2, 0, none⟩)) ∧ u.cell? ⟨w.heap.size + 1 + 1 + 1 + 1 + 1, 0, none⟩ = some (.pointer (some ⟨w.heap.size + 4, 0, none⟩)) ∧ u.cell? ⟨Y.heap.size + 1, 0, none⟩ = some (.slice ta L.length tc) ∧ u.cell? ⟨Y.heap.size + 1 + 1, 0, none⟩ = some (.slice ga L.length gc) ∧ u.cell? ⟨w.heap.size + 1, 0, none⟩ = some (.bool false) ∧ u.frozen? ⟨w.heap.size + 1, 0, none⟩ = false) ∧ Hid (EdP X w.heap.size (w.heap.size + 2) 9 #[] a' L'.length cap' lent' (.int .i64 (rputE L' (1099511627776, 0))) (rputL L' (1099511627776, 0)) (.returned (.int .i64 (rputE L' (1099511627776, 0)))) u) := by
          intro u0 hu0
          obtain ⟨-, _, _, _, _, -, q2, -, -⟩ := id hu0.out
          have hT := HT u0 (Turn.weak q2 ownF_do)
          refine (items_same u0 ga ta gc tc L L.length rfl (by omega) hT.2.1 hT.2.2.1).mono ?_
          rintro e u ⟨he, m', rfl⟩
          exact ⟨he, hT.1, hu0.out.drewN m'⟩
        have c16 : ∀ u0, Hid (EdP X w.heap.size (w.heap.size + 2) 9 #[] a' L'.length cap' lent' (.int .i64 (rputE L' (1099511627776, 0))) (rputL L' (1099511627776, 0)) (.returned (.int .i64 (rputE L' (1099511627776, 0)))) u0) → Calls Try.prog 16 #[.pointer (some ⟨w.heap.size + 4, 0, none⟩), .agg #[.int .i64 1099511627776, .int .i64 0]] u0 fun e u => e = .returned (.int .i64 (rputE L' (1099511627776, 0))) ∧ (u.cell? ⟨w.heap.size + 1 + 1 + 1, 0, none⟩ = some (.pointer (some ⟨w.heap.size + 2, 0, none⟩)) ∧ u.cell? ⟨w.heap.size + 1 + 1 + 1 + 1 + 1, 0, none⟩ = some (.pointer (some ⟨w.heap.size + 4, 0, none⟩)) ∧ u.cell? ⟨Y.heap.size + 1, 0, none⟩ = some (.slice ta L.length tc) ∧ u.cell? ⟨Y.heap.size + 1 + 1, 0, none⟩ = some (.slice ga L.length gc) ∧ u.cell? ⟨w.heap.size + 1, 0, none⟩ = some (.bool false) ∧ u.frozen? ⟨w.heap.size + 1, 0, none⟩ = false) ∧ Hid (DoP X w.heap.size (w.heap.size + 2) (w.heap.size + 4) a' L'.length cap' lent' (.slice ra' L'.length rc') u) := by
          intro u0 hu0
          obtain ⟨-, _, _, _, _, -, q2, -, -⟩ := id hu0.out
          have hru : RAt u0 w.heap.size (w.heap.size + 4) L' ra' rc' := p1.ref.turned (db := w.heap.size + 2) (fun hx => by
            rcases hx with hx | ⟨_, hx⟩
            · omega
            · exact p1.rowr _ hx rfl) (fun k hk hx => by
            rcases hx with hx | ⟨_, hx⟩
            · exact p1.rowd k hk hx
            · exact p1.rows k hx hk) q2
          refine (rput_any u0 w.heap.size (w.heap.size + 4) L' ra' rc' (1099511627776, 0) hru p2 (Nat.le_trans hXs q2.size)).mono ?_
          intro e u hu
          have he := hu.1
          subst he
          have hdp := DoP.edit p1 (rise_rput p2 _) hu0.out hu (fun _ _ k e1 e2 hk => slice_own e1 e2 hk)
          obtain ⟨_, _, _, _, _, _, _, -, -, q3, -, -⟩ := id hdp
          exact ⟨rfl, (HT u q3).1, hdp⟩
        have c11 : ∀ u0, Hid (DoP X w.heap.size (w.heap.size + 2) (w.heap.size + 4) a' L'.length cap' lent' (.slice ra' L'.length rc') u0) → Calls Try.prog 11 #[.pointer (some ⟨w.heap.size + 2, 0, none⟩), .pointer (some ⟨w.heap.size + 4, 0, none⟩)] u0 fun e u => e = .returned (.bool true) ∧ (u.cell? ⟨w.heap.size + 1 + 1 + 1, 0, none⟩ = some (.pointer (some ⟨w.heap.size + 2, 0, none⟩)) ∧ u.cell? ⟨w.heap.size + 1 + 1 + 1 + 1 + 1, 0, none⟩ = some (.pointer (some ⟨w.heap.size + 4, 0, none⟩)) ∧ u.cell? ⟨Y.heap.size + 1, 0, none⟩ = some (.slice ta L.length tc) ∧ u.cell? ⟨Y.heap.size + 1 + 1, 0, none⟩ = some (.slice ga L.length gc) ∧ u.cell? ⟨w.heap.size + 1, 0, none⟩ = some (.bool false) ∧ u.frozen? ⟨w.heap.size + 1, 0, none⟩ = false) ∧ Hid (u.heap[w.heap.size + 1]? = some (.cells #[.bool false] 4 (0, 0)) ∧ u.heap[Z.heap.size]? = some (.deferred (some [])) ∧ Below w.heap.size w u) := by
          intro u0 hu0
          obtain ⟨L2, a2, cap2, lent2, ed2, ra2, rc2, b1, b2, q3, -, -⟩ := id hu0.out
          refine (all_same u0 w.heap.size (w.heap.size + 2) (w.heap.size + 4) L2 a2 cap2 lent2 ed2 ra2 rc2 b1 (Nat.le_trans hXs q3.size)).mono ?_
          rintro e u ⟨he, -, tu⟩
          have t2 := turn_trans q3 (Turn.weak tu (fun _ e => .inl e))
          have hT := HT u t2
          exact ⟨he, hT.1, doP_box p1 t2 i1.ws.x1 (by omega) (by omega) (by decide), hT.2.2.2.1, hT.2.2.2.2⟩
        obtain ⟨f3, f5, f9, f10, f1, ff⟩ := (HT X (Turn.refl _ X)).1
        clear HT i1 p1 p2 p3 p4 pe1 pe2 pe3 hD
        generalize rputE L' (1099511627776, 0) = pv at *
        gi_wp2_with fail
        refine ⟨trivial, rfl, (callsIn_wide.2 c14).mono ?_⟩
        rintro e u1 ⟨rfl, ⟨r3, r5, r9, r10, r1, rf⟩, q1⟩
        clear c14 f3 f5 f9 f10 f1 ff
        have c15' := c15 u1 q1
        gi_wp2_with fail
        refine ⟨trivial, rfl, (callsIn_wide.2 c15').mono ?_⟩
        rintro e u2 ⟨rfl, ⟨s3, s5, s9, s10, s1, sf⟩, q2⟩
        clear c15 c15' r3 r5 r9 r10 r1 rf
        have c16' := c16 u2 q2
        gi_wp2_with fail
        refine ⟨trivial, rfl, (callsIn_wide.2 c16').mono ?_⟩
        rintro e u3 ⟨rfl, ⟨t3, t5, t9, t10, t1, tf⟩, q3⟩
        clear c16 c16' s3 s5 s9 s10 s1 sf
        have c11' := c11 u3 q3
        gi_wp2_with fail
        refine ⟨trivial, rfl, (callsIn_wide.2 c11').mono ?_⟩
        rintro e u4 ⟨rfl, ⟨v3, v5, v9, v10, v1, vf⟩, q4⟩
        clear c11 c11' t3 t5 t9 t10 t1 tf
        obtain ⟨U, hU⟩ : ∃ U, u4.setCell ⟨w.heap.size + 1, 0, none⟩ (.bool true) = U := ⟨_, rfl⟩
        have far : ∀ k, k ≠ w.heap.size + 1 → U.heap[k]? = u4.heap[k]? := fun k hk => by rw [← hU]; exact Below.heap_setCell _ _ _ _ hk
        have hD2 : U.heap[Z.heap.size]? = some (.deferred (some [])) := (far _ (by omega)).trans q4.out.2.1
        have c8 : (U.putObj Z.heap.size (.deferred none)).cell? ⟨w.heap.size + 1, 0, none⟩ = some (.bool true) := by
          have hz : (U.putObj Z.heap.size (.deferred none)).heap[w.heap.size + 1]? = some (.cells #[.bool true] 4 (0, 0)) := by
            rw [World.putObj_heap_other (by omega), ← hU]
            simp [World.setCell, Array.getElem?_modify, q4.out.1]
          exact cell_at hz 0
        have HF : Hid (Below w.heap.size w (U.putObj Z.heap.size (.deferred none))) := by
          have hb := q4.out.2.2
          have hs : U.heap.size = u4.heap.size := by rw [← hU]; simp [World.setCell]
          have h5 : U.os = u4.os ∧ U.tape = u4.tape ∧ U.output = u4.output := by rw [← hU]; exact ⟨rfl, rfl, rfl⟩
          exact ⟨h5.1.trans hb.os, h5.2.1.trans hb.tape, h5.2.2.trans hb.output, by simp [hs]; exact hb.size, fun k hk => (World.putObj_heap_other (by omega)).trans ((far k (by omega)).trans (hb.block k hk))⟩
        have HD2 : Hid (U.heap[Z.heap.size]? = some (.deferred (some []))) := hD2
        have HUU : Hid (u4.setCell ⟨w.heap.size + 1, 0, none⟩ (.bool true) = U) := hU
        rw [hs7] at HD2 HF c8
        clear hU far hD2
        gi_wp2
        rw [HUU.out]
        refine ⟨by simp, .inl ⟨_, _, rfl, run_takeDeferred HD2.out, ?_⟩⟩
        have hres : Try.f4.results = #[.cell 4 4] := rfl
        refine ⟨.bool true, ?_, rfl, HF.out⟩
        simp only [results, hres]
        simp [go_sem, c8]
      case stop =>
        rintro c pre X hpre i1
        exact i1.elim

end Go.Proofs.Ytiggpbjgnododaa.T
