/- What changes a list of items: own, Put, Delete, Drop, whether or not somebody ranges over it. -/
import Derived.Test.YtiggpbjgnododaaTl
namespace Go.Proofs.Ytiggpbjgnododaa.T
open Go.RowKit Go.Shelf
set_option linter.unusedVariables false

theorem LAt.edit {w : World} {B db g : Nat} {caps : Array Value} {L : List (Int × Int)} {a : Option Addr} {cap : Nat} {lent : Bool} {ed : Int} (h : LAt w B db g caps L a cap lent ed) (ed' : Int) : LAt (w.setCell ⟨db, 3, none⟩ (.int .u64 ed')) B db g caps L a cap lent ed' :=
  ⟨by simpa using h.head.set 3 (.int .u64 ed'), own_of_block h.row (fun k hk => Below.heap_setCell _ _ _ _ (h.ne k hk)), h.ne, h.len⟩

/-- What own leaves: the row is the list's alone. -/
def OwnP (w : World) (B db g : Nat) (caps : Array Value) (L : List (Int × Int)) (a : Option Addr) (cap : Nat) (lent : Bool) (e : Ending) (w' : World) : Prop :=
  (∃ v, e = .returned v) ∧ ∃ a' cap' ed', LAt w' B db g caps L a' cap' false ed' ∧ Turn (fun b => b = db) w w' ∧ (∀ k, (Value.slice a' L.length cap').ownBlock = some k → (lent = false ∧ (Value.slice a L.length cap).ownBlock = some k) ∨ w.heap.size ≤ k)

set_option maxRecDepth 100000 in
set_option maxHeartbeats 1000000 in
theorem own_free (w : World) (B db g : Nat) (caps : Array Value) (L : List (Int × Int)) (a : Option Addr) (cap : Nat) (ed : Int) (h : LAt w B db g caps L a cap false ed) :
    Calls Try.prog 51 #[.pointer (some ⟨db, 0, none⟩)] w (OwnP w B db g caps L a cap false) := by
  have c2 : w.cell? ⟨db, 2, none⟩ = some (.bool false) := h.head.cell 2
  have c3 : w.cell? ⟨db, 3, none⟩ = some (.int .u64 ed) := h.head.cell 3
  have f3 : w.frozen? ⟨db, 3, none⟩ = false := h.head.frozen 3
  have H : Hid (LAt w B db g caps L a cap false ed) := h
  clear h
  go_enter Try.func51, Try.ntmps51
  go_wp2
  go_end0
  exact ⟨⟨_, rfl⟩, a, cap, _, H.out.edit _, (Turn.refl (fun b => b = db) w).setCell (p := ⟨db, 3, none⟩) rfl _, fun k hk => .inl ⟨rfl, hk⟩⟩

set_option maxRecDepth 100000 in
set_option maxHeartbeats 1000000 in
theorem own_lent (w : World) (B db g : Nat) (caps : Array Value) (L : List (Int × Int)) (a : Option Addr) (cap : Nat) (ed : Int) (h : LAt w B db g caps L a cap true ed) (hB : B ≤ w.heap.size) :
    Calls Try.prog 51 #[.pointer (some ⟨db, 0, none⟩)] w (OwnP w B db g caps L a cap true) := by
  have hcl := clone_any w B a L.length cap (cellsOf L) h.row (cellsOf_one L) (by have := h.len; omega)
  have c1 : w.cell? ⟨db, 1, none⟩ = some (.slice a L.length cap) := h.head.cell 1
  have c2 : w.cell? ⟨db, 2, none⟩ = some (.bool true) := h.head.cell 2
  have hdl := h.head.lt
  have H : Hid (LAt w B db g caps L a cap true ed) := h
  clear h
  go_enter Try.func51, Try.ntmps51
  go_wp2_with fail
  refine hcl.mono ?_
  rintro e w1 ⟨v', rfl, hr, hb⟩
  obtain ⟨a', cap', rfl⟩ := own_slice hr
  have hd1 : IsCells w1 db #[.func (.func g) #[] caps, .slice a L.length cap, .bool true, .int .u64 ed] := H.out.head.of_block (hb.block db hdl)
  have c11 : w1.cell? ⟨db, 1, none⟩ = some (.slice a L.length cap) := hd1.cell 1
  have c12 : w1.cell? ⟨db, 2, none⟩ = some (.bool true) := hd1.cell 2
  have c13 : w1.cell? ⟨db, 3, none⟩ = some (.int .u64 ed) := hd1.cell 3
  have f1 : ∀ k, w1.frozen? ⟨db, k, none⟩ = false := fun k => hd1.frozen k
  have HD : Hid (IsCells w1 db #[.func (.func g) #[] caps, .slice a L.length cap, .bool true, .int .u64 ed]) := hd1
  have HR : Hid (w1.ownsRow w.heap.size 28 2 (.slice a' L.length cap') L.length (cellsOf L)) := hr
  have HB : Hid (Below w.heap.size w w1) := hb
  clear hr hb hcl c1 c2 hd1
  go_wp2
  go_end0
  have hnd : ∀ k, (Value.slice a' L.length cap').ownBlock = some k → k ≠ db := fun k hk => by
    have := (own_block_lt HR.out k hk).1
    omega
  refine ⟨⟨_, rfl⟩, a', cap', _, ⟨by simpa using ((HD.out.set 1 (.slice a' L.length cap')).set 2 (.bool false)).set 3 _, ?_, hnd, H.out.len⟩, ?_, fun k hk => .inr (own_block_lt HR.out k hk).1⟩
  · refine own_base (own_of_block HR.out (fun k hk => ?_)) (fun k hk => by have := (own_block_lt HR.out k hk).1; omega)
    rw [Below.heap_setCell _ _ _ _ (hnd k hk), Below.heap_setCell _ _ _ _ (hnd k hk), Below.heap_setCell _ _ _ _ (hnd k hk)]
  · exact ((((Turn.refl (fun b => b = db) w).then HB.out (Nat.le_refl _)).setCell (p := ⟨db, 1, none⟩) rfl _).setCell (p := ⟨db, 2, none⟩) rfl _).setCell (p := ⟨db, 3, none⟩) rfl _

theorem own_any (w : World) (B db g : Nat) (caps : Array Value) (L : List (Int × Int)) (a : Option Addr) (cap : Nat) (lent : Bool) (ed : Int) (h : LAt w B db g caps L a cap lent ed) (hB : B ≤ w.heap.size) :
    Calls Try.prog 51 #[.pointer (some ⟨db, 0, none⟩)] w (OwnP w B db g caps L a cap lent) := by
  cases lent with
  | false => exact own_free w B db g caps L a cap ed h
  | true => exact own_lent w B db g caps L a cap ed h hB

/-- What Put answers. -/
def putE (lt : Int × Int → Int × Int → Bool) (L : List (Int × Int)) (x : Int × Int) (k : Nat) : Int := if thereB lt L x k then 70 else if 8192 ≤ L.length then 2 else 0
/-- What is there behind it. -/
def putL (lt : Int × Int → Int × Int → Bool) (L : List (Int × Int)) (x : Int × Int) (k : Nat) : List (Int × Int) := if thereB lt L x k then L else if 8192 ≤ L.length then L else L.take k ++ [x] ++ L.drop k
/-- What is there behind a Drop. -/
def dropL (lt : Int × Int → Int × Int → Bool) (L : List (Int × Int)) (x : Int × Int) (k : Nat) : List (Int × Int) := if thereB lt L x k then L.take k ++ L.drop (k + 1) else L

/-- The blocks of a list that an edit may turn. -/
def OwnF (db : Nat) (lent : Bool) (v : Value) (b : Nat) : Prop := b = db ∨ (lent = false ∧ v.ownBlock = some b)

/-- What an edit leaves. -/
def EdP (w : World) (B db g : Nat) (caps : Array Value) (a : Option Addr) (n cap : Nat) (lent : Bool) (R : Value) (L' : List (Int × Int)) (e : Ending) (w' : World) : Prop :=
  e = .returned R ∧ ∃ a' cap' lent' ed', LAt w' B db g caps L' a' cap' lent' ed' ∧ Turn (OwnF db lent (.slice a n cap)) w w' ∧ (lent' = true → lent = true) ∧
    (∀ k, (Value.slice a' L'.length cap').ownBlock = some k → (lent = false ∧ (Value.slice a n cap).ownBlock = some k) ∨ (lent' = true ∧ (Value.slice a n cap).ownBlock = some k) ∨ w.heap.size ≤ k)

theorem EdP.same {w w' : World} {B db g : Nat} {caps : Array Value} {L : List (Int × Int)} {a : Option Addr} {cap : Nat} {lent : Bool} {ed : Int} {R : Value} (h : LAt w B db g caps L a cap lent ed) (hb : Below w.heap.size w w') : EdP w B db g caps a L.length cap lent R L (.returned R) w' :=
  ⟨rfl, a, cap, lent, ed, h.below hb, (Turn.refl _ w).then hb (Nat.le_refl _), id, fun k hk => by
    cases lent with
    | false => exact .inl ⟨rfl, hk⟩
    | true => exact .inr (.inl ⟨rfl, hk⟩)⟩

set_option maxRecDepth 100000 in
set_option maxHeartbeats 2000000 in
theorem put_any (w : World) (B db g : Nat) (caps : Array Value) (L : List (Int × Int)) (a : Option Addr) (cap : Nat) (lent : Bool) (ed : Int) (lt : Int × Int → Int × Int → Bool) (dom : Int × Int → Prop) (x : Int × Int) (k : Nat)
    (h : LAt w B db g caps L a cap lent ed) (hB : B ≤ w.heap.size) (hless : Less w g caps lt dom) (hx : dom x) (hL : ∀ y ∈ L, dom y) (hc : Cut lt L x k) :
    Calls Try.prog 14 #[.pointer (some ⟨db, 0, none⟩), .agg #[.int .i64 x.1, .int .i64 x.2]] w (EdP w B db g caps a L.length cap lent (.int .i64 (putE lt L x k)) (putL lt L x k)) := by
  have hf := find_any (w.alloc (.cells #[.int .i64 x.1, .int .i64 x.2] 28)) B db g caps L a cap lent ed lt dom x k (h.below (bel1 _ _)) (hless.below (bel1 _ _)) hx hL hc
  have hkl := hc.le
  have H : Hid (LAt w B db g caps L a cap lent ed) := h
  have hdl := h.head.lt
  clear h hless hL hc
  by_cases ht : thereB lt L x k = true
  · rw [ht] at hf
    have e1 : putE lt L x k = 70 := by simp [putE, ht]
    have e2 : putL lt L x k = L := by simp [putL, ht]
    rw [e1, e2]
    clear e1 e2 ht
    go_enter Try.func14, Try.ntmps14
    go_wp2_with fail
    refine hf.mono ?_
    rintro e w1 ⟨rfl, hb⟩
    have HB : Hid (Below w.heap.size w w1) := (bel1 w _).trans (hb.mono (by simp))
    clear hf hb
    go_wp2
    go_ret
    exact EdP.same H.out HB.out
  · have ht' : thereB lt L x k = false := by simpa using ht
    rw [ht'] at hf
    by_cases h8 : 8192 ≤ L.length
    · have e1 : putE lt L x k = 2 := by simp [putE, ht', h8]
      have e2 : putL lt L x k = L := by simp [putL, ht', h8]
      rw [e1, e2]
      have h8' : (8192 : Int) ≤ (L.length : Int) := by omega
      have hl8 := H.out.len
      have hl9 : (L.length : Int) ≤ 8192 := by omega
      clear e1 e2 ht ht' h8
      go_enter Try.func14, Try.ntmps14
      go_wp2_with fail
      refine hf.mono ?_
      rintro e w1 ⟨rfl, hb⟩
      have HB : Hid (Below w.heap.size w w1) := (bel1 w _).trans (hb.mono (by simp))
      have c1 : w1.cell? ⟨db, 1, none⟩ = some (.slice a L.length cap) := (H.out.below HB.out).head.cell 1
      clear hf hb
      go_wp2
      go_ret
      exact EdP.same H.out HB.out
    · have e1 : putE lt L x k = 0 := by simp [putE, ht', h8]
      have e2 : putL lt L x k = L.take k ++ [x] ++ L.drop k := by simp only [putL, ht', h8]; simp
      rw [e1, e2]
      have h8' : (L.length : Int) < 8192 := by omega
      clear e1 e2 ht ht'
      go_enter Try.func14, Try.ntmps14
      go_wp2_with fail
      refine hf.mono ?_
      rintro e w1 ⟨rfl, hb⟩
      have HB : Hid (Below w.heap.size w w1) := (bel1 w _).trans (hb.mono (by simp))
      have H1 : Hid (LAt w1 B db g caps L a cap lent ed) := H.out.below HB.out
      have c1 : w1.cell? ⟨db, 1, none⟩ = some (.slice a L.length cap) := H1.out.head.cell 1
      have hx1 : IsCells w1 w.heap.size #[.int .i64 x.1, .int .i64 x.2] := (isCells_new w _ _).of_block (hb.block _ (by simp))
      have hw := own_any w1 B db g caps L a cap lent ed H1.out (by have := HB.out.size; omega)
      have HX1 : Hid (IsCells w1 w.heap.size #[.int .i64 x.1, .int .i64 x.2]) := hx1
      clear hf hb hx1
      go_wp2_with fail
      refine hw.mono ?_
      rintro e W ⟨⟨v, rfl⟩, a1, cap1, ed1, hL1, hT1, hk1⟩
      have H2 : Hid (LAt W B db g caps L a1 cap1 false ed1) := hL1
      have HX2 : Hid (IsCells W w.heap.size #[.int .i64 x.1, .int .i64 x.2]) := HX1.out.of_block (hT1.block _ HX1.out.lt (by omega))
      have T1 : Hid (Turn (fun b => b = db) w W) := ⟨hT1.os.trans HB.out.os, hT1.tape.trans HB.out.tape, hT1.output.trans HB.out.output, Nat.le_trans HB.out.size hT1.size, fun k hk hne => (hT1.block k (by have := HB.out.size; omega) hne).trans (HB.out.block k hk)⟩
      have HK1 : Hid (∀ k, (Value.slice a1 L.length cap1).ownBlock = some k → (lent = false ∧ (Value.slice a L.length cap).ownBlock = some k) ∨ w.heap.size ≤ k) := fun k hk => by
        rcases hk1 k hk with h | h
        · exact .inl h
        · exact .inr (by have := HB.out.size; omega)
      clear hw H1 HB c1 HX1 hL1 hT1 hk1
      have c1 : W.cell? ⟨db, 1, none⟩ = some (.slice a1 L.length cap1) := H2.out.head.cell 1
      have cx0 : W.cell? ⟨w.heap.size, 0, none⟩ = some (.int .i64 x.1) := HX2.out.cell 0
      have cx1 : W.cell? ⟨w.heap.size, 1, none⟩ = some (.int .i64 x.2) := HX2.out.cell 1
      have c1a : (W.alloc (.cells #[.int .i64 x.1, .int .i64 x.2] 28)).cell? ⟨db, 1, none⟩ = some (.slice a1 L.length cap1) := (H2.out.head.alloc _).cell 1
      have hbz := T1.out.size
      have hins : ∀ W', (∀ k : Nat, W'.heap[k]? = (W.alloc (.cells #[.int .i64 x.1, .int .i64 x.2] 28)).heap[k]?) → W'.heap.size = W.heap.size + 1 → (W'.os = W.os ∧ W'.tape = W.tape ∧ W'.output = W.output) → Calls Try.prog 52 #[.slice a1 L.length cap1, .int .i64 (k : Int), .slice (some ⟨W.heap.size, 0, none⟩) 1 1] W' fun e w3 =>
          ∃ a' cap', e = .returned (.slice a' (L.length + 1) cap') ∧ w3.cell? ⟨db, 1, none⟩ = some (.slice a1 L.length cap1) ∧ w3.frozen? ⟨db, 1, none⟩ = false ∧ Hid (IsCells w3 db #[.func (.func g) #[] caps, .slice a1 L.length cap1, .bool false, .int .u64 ed1]) ∧
            Hid (w3.ownsRow B 28 2 (.slice a' (L.length + 1) cap') (L.length + 1) ((cellsOf L).take (k * 2) ++ [.int .i64 x.1, .int .i64 x.2] ++ (cellsOf L).drop (k * 2))) ∧ Hid (Turn (fun b => (Value.slice a1 L.length cap1).ownBlock = some b) W w3) ∧
            Hid (∀ k, (Value.slice a' (L.length + 1) cap').ownBlock = some k → (Value.slice a1 L.length cap1).ownBlock = some k ∨ W.heap.size ≤ k) := fun W' hh hsz hos =>
        (insert_any W' B a1 L.length cap1 W.heap.size k (cellsOf L) [.int .i64 x.1, .int .i64 x.2] (own_of_block H2.out.row (fun k hk => (hh k).trans (Below.heap_alloc _ _ _ (own_block_lt H2.out.row k hk).2))) ((hh _).trans (heap_alloc_new W _)) rfl (by intro u hu; simp at hu; rcases hu with rfl | rfl <;> rfl) (cellsOf_one L) (by omega) (by omega) hkl
          (fun e => by have := (own_block_lt H2.out.row _ e).2; omega)).mono fun e w3 ⟨v', he, p1, p2, p3⟩ => by
            obtain ⟨a', cap', rfl⟩ := own_slice p1
            have hdW := H2.out.head.lt
            have hd3 : IsCells w3 db #[.func (.func g) #[] caps, .slice a1 L.length cap1, .bool false, .int .u64 ed1] := H2.out.head.of_block ((p2.block db (by omega) (fun e => H2.out.ne _ e.symm rfl)).trans ((hh db).trans (Below.heap_alloc _ _ _ hdW)))
            refine ⟨a', cap', he, hd3.cell 1, hd3.frozen 1, hd3, p1, ⟨p2.os.trans hos.1, p2.tape.trans hos.2.1, p2.output.trans hos.2.2, by have := p2.size; omega, fun j hj hn => (p2.block j (by omega) (fun e => hn e.symm)).trans ((hh j).trans (Below.heap_alloc _ _ _ hj))⟩, fun j hj => ?_⟩
            rcases p3 with e | e
            · rw [e] at hj; exact .inl hj
            · rw [e] at hj; simp at hj; exact .inr (by omega)
      go_wp2
      go_region_with (first | (go_at_call 52; go_must (refine (hins (W.alloc (.cells #[.int .i64 x.1, .int .i64 x.2] 28)).drew (fun _ => rfl) (by simp) ⟨rfl, rfl, rfl⟩).mono ?_; rintro e w3 ⟨a', cap', rfl, c3, f3, HD, P1, P2, P3⟩)))
      all_goals
        go_wp2
        go_ret
        have hlen : (L.take k ++ [x] ++ L.drop k).length = L.length + 1 := by simp; omega
        have hz3 : W.heap.size ≤ w3.heap.size := P2.out.size
        have hnd : ∀ j, (Value.slice a' (L.length + 1) cap').ownBlock = some j → j ≠ db := fun j hj => by
          rcases P3.out j hj with h | h
          · exact H2.out.ne j h
          · have := H2.out.head.lt
            omega
        refine ⟨rfl, a', cap', false, ed1, ⟨?_, ?_, ?_, by rw [hlen]; omega⟩, ?_, (fun h => by cases h), ?_⟩
        · rw [hlen]
          simpa using HD.out.set 1 (.slice a' (L.length + 1) cap')
        · rw [hlen]
          refine own_of_block ?_ (fun j hj => Below.heap_setCell _ _ _ _ (hnd j hj))
          have e : cellsOf (L.take k ++ [x] ++ L.drop k) = (cellsOf L).take (k * 2) ++ [.int .i64 x.1, .int .i64 x.2] ++ (cellsOf L).drop (k * 2) := by
            rw [cellsOf_append, cellsOf_append, cellsOf_take, cellsOf_drop]
            rfl
          rw [e]
          exact P1.out
        · rw [hlen]
          exact hnd
        · refine Turn.setCell (p := ⟨db, 1, none⟩) ?_ (.inl rfl) _
          refine ⟨P2.out.os.trans T1.out.os, P2.out.tape.trans T1.out.tape, P2.out.output.trans T1.out.output, by omega, fun j hj hn => ?_⟩
          refine (P2.out.block j (by omega) (fun e => ?_)).trans (T1.out.block j hj (fun e => hn (.inl e)))
          rcases HK1.out j e with h | h
          · exact hn (.inr h)
          · omega
        · rw [hlen]
          intro j hj
          rcases P3.out j hj with h | h
          · rcases HK1.out j h with h | h
            · exact .inl h
            · exact .inr (.inr h)
          · exact .inr (.inr (by omega))

set_option maxRecDepth 100000 in
set_option maxHeartbeats 2000000 in
theorem delete_any (w : World) (B : Nat) (a : Option Addr) (n cap i : Nat) (xs : List Value) (hown : w.ownsRow B 28 2 (.slice a n cap) n xs) (h1x : ∀ u ∈ xs, u.oneCell' = true) (hn : n ≤ 1048576) (hi : i < n) :
    Calls Try.prog 73 #[.slice a n cap, .int .i64 (i : Int), .int .i64 ((i : Int) + 1)] w fun e w' => e = .returned (.slice a (n - 1) cap) ∧ w'.ownsRow B 28 2 (.slice a (n - 1) cap) (n - 1) (xs.take (i * 2) ++ xs.drop ((i + 1) * 2)) ∧ w.grownBy w' (Value.slice a n cap).ownBlock := by
  obtain ⟨g, cur, rfl, hbg, hcur, hnc, hcm, hcl, hct⟩ := full_of_own hown (by omega)
  obtain ⟨-, hxl, -⟩ := row_cell hown
  unfold maxLen at hcm
  have hn' : (n : Int) ≤ 1048576 := by omega
  have hcm' : (cap : Int) ≤ 9223372036854775807 := by omega
  have hc2 : (n : Int) ≤ (cap : Int) := by omega
  have hi1 : (i : Int) + 1 ≤ (n : Int) := by omega
  have hi2 : ((i : Int) == (i : Int) + 1) = false := by simp; omega
  have hi3 : (i : Int) ≤ (n : Int) := by omega
  have hi4 : (i : Int) ≤ (cap : Int) := by omega
  have hi5 : ¬ (cap = i) := by omega
  have hi6 : (0 : Int) ≤ (i : Int) + 1 := by omega
  have hi7 : ((i : Int) + 1).toNat = i + 1 := by omega
  have hi8 : (i : Int) ≤ (i : Int) + 1 := by omega
  have hi9 : (0 : Int) ≤ (i : Int) := by omega
  have hi10 : (i : Int) + 1 ≤ (cap : Int) := by omega
  have hi11 : i ≤ cap := by omega
  have hmm : Hid (i + (n - (i + 1)) = n - 1) := by show _ = _; omega
  obtain ⟨A, hA, HA⟩ : ∃ A, (if cap = i + 1 then some (⟨g, 0, none⟩ : Addr) else some ⟨g, (i + 1) * 2, none⟩) = some A ∧ Hid (∀ j u, (xs.drop ((i + 1) * 2))[j]? = some u → w.drew.cell? (A.add j) = some u) := by
    by_cases e : cap = i + 1
    · refine ⟨_, if_pos e, fun j u hu => ?_⟩
      rw [List.drop_of_length_le (by omega)] at hu
      simp at hu
    · refine ⟨_, if_neg e, fun j u hu => ?_⟩
      rw [addr_add]
      show w.cell? _ = _
      rw [cell_of hcur]
      rw [List.getElem?_drop] at hu
      rw [← hct, List.getElem?_take] at hu
      split at hu
      · exact hu
      · cases hu
  have Hcur : Hid (w.heap[g]? = some (.cells cur.toArray 28 (0, 0))) := hcur
  have Hct : Hid (cur.take (n * 2) = xs) := hct
  have Hxl : Hid (xs.length = n * 2) := hxl
  have Hcl : Hid (cur.length = cap * 2) := hcl
  have tok1 : True := trivial
  clear hown hcur hct hxl hcl
  go_enter Try.func73, Try.ntmps73
  go_wp2
  go_region_law (have _t := tok1; go_must (refine step_moveK rfl _ _ 31 28 rfl Try.underlying31 infoE g i cap A (n - (i + 1)) (cap - (i + 1)) cur (xs.drop ((i + 1) * 2)) 28 (by simp [Act.eval, Act.put]) (by simp [Act.eval, Act.put]) Hcur.out (by have := Hxl.out; rw [List.length_drop]; omega) HA.out (fun u hu => h1x u (List.mem_of_mem_drop hu)) (by omega) Hcl.out ?_; intro w2 p1 p2 p3; rw [hmm.out]; have M1 : Hid (w2.heap[g]? = some (.cells (over cur (i * 2) (xs.drop ((i + 1) * 2))).toArray 28 (0, 0))) := p1; clear p1; have M2 : Hid (w.grownBy w2 (some g)) := ⟨p2.os, p2.tape, p2.output, p2.size, p2.block⟩; clear p2; have M3 : Hid (w2.heap.size = w.heap.size) := p3; clear p3 tok1 _t))
  all_goals
    have hd1 : ((n - 1 : Nat) : Int) ≤ (n : Int) := by omega
    have hd2 : ¬ (cap = n - 1) := by omega
    have hd3 : n - 1 ≤ n := by omega
    have hd4 : n ≤ cap := by omega
    have tok2 : True := trivial
    have Hov : Hid ((over cur (i * 2) (xs.drop ((i + 1) * 2))).length = cap * 2) := by
      show _ = _
      have h1 := Hxl.out
      have h2 := Hcl.out
      rw [over_length (by rw [List.length_drop]; omega), h2]
    go_wp2_with (have _t := tok2; have _m := M1; (refine wpList_clearK _ rfl _ 31 28 rfl Try.underlying31 infoE rfl (by intro u hu; simp [Value.cells] at hu; subst hu; rfl) (by decide) g ((n - 1) * 2) (n - (n - 1)) (cap - (n - 1)) (over cur (i * 2) (xs.drop ((i + 1) * 2))) 28 rfl M1.out (by omega) (by rw [Hov.out]; omega) ?_; intro w3 zs q0 q1 q2 q3; clear tok2 _t _m))
    go_ret
    have h1 := Hxl.out
    have h2 := Hcl.out
    have hzl : zs.length = 2 := by rw [q0, show n - (n - 1) = 1 by omega, Nat.one_mul]
    refine ⟨rfl, own_of_full q1 hbg (by omega) (by unfold maxLen; omega) (by rw [over_length (by rw [Hov.out]; omega), Hov.out]) ?_, ⟨q2.os.trans M2.out.os, q2.tape.trans M2.out.tape, q2.output.trans M2.out.output, by have := M3.out; omega, fun k hk hne => (q2.block k (by have := M3.out; omega) hne).trans (M2.out.block k hk hne)⟩⟩
    exact over_del (cur := cur) (xs := xs) (zs := zs) (i := i) (n := n) (k := 2) Hct.out hi hzl (by omega)

set_option maxRecDepth 100000 in
set_option maxHeartbeats 2000000 in
theorem drop_any (w : World) (B db g : Nat) (caps : Array Value) (L : List (Int × Int)) (a : Option Addr) (cap : Nat) (lent : Bool) (ed : Int) (lt : Int × Int → Int × Int → Bool) (dom : Int × Int → Prop) (x : Int × Int) (k : Nat)
    (h : LAt w B db g caps L a cap lent ed) (hB : B ≤ w.heap.size) (hless : Less w g caps lt dom) (hx : dom x) (hL : ∀ y ∈ L, dom y) (hc : Cut lt L x k) :
    Calls Try.prog 37 #[.pointer (some ⟨db, 0, none⟩), .agg #[.int .i64 x.1, .int .i64 x.2]] w (EdP w B db g caps a L.length cap lent (.bool (thereB lt L x k)) (dropL lt L x k)) := by
  have hf := find_any (w.alloc (.cells #[.int .i64 x.1, .int .i64 x.2] 28)) B db g caps L a cap lent ed lt dom x k (h.below (bel1 _ _)) (hless.below (bel1 _ _)) hx hL hc
  have H : Hid (LAt w B db g caps L a cap lent ed) := h
  have hdl := h.head.lt
  clear h hless hL
  cases ht : thereB lt L x k with
  | false =>
    rw [ht] at hf
    have e2 : dropL lt L x k = L := by simp [dropL, ht]
    rw [e2]
    clear e2 ht hc
    go_enter Try.func37, Try.ntmps37
    go_wp2_with fail
    refine hf.mono ?_
    rintro e w1 ⟨rfl, hb⟩
    have HB : Hid (Below w.heap.size w w1) := (bel1 w _).trans (hb.mono (by simp))
    clear hf hb
    go_wp2
    go_ret
    exact EdP.same H.out HB.out
  | true =>
    have hkl : k < L.length := by
      unfold thereB at ht
      cases hq : L[k]? with
      | none => rw [hq] at ht; cases ht
      | some y => exact (List.getElem?_eq_some_iff.1 hq).1
    rw [ht] at hf
    have e2 : dropL lt L x k = L.take k ++ L.drop (k + 1) := by simp [dropL, ht]
    rw [e2]
    have hl8 := H.out.len
    have hk8 : (k : Int) < 8192 := by omega
    clear e2 ht hc
    go_enter Try.func37, Try.ntmps37
    go_wp2_with fail
    refine hf.mono ?_
    rintro e w1 ⟨rfl, hb⟩
    have HB : Hid (Below w.heap.size w w1) := (bel1 w _).trans (hb.mono (by simp))
    have H1 : Hid (LAt w1 B db g caps L a cap lent ed) := H.out.below HB.out
    have hw := own_any w1 B db g caps L a cap lent ed H1.out (by have := HB.out.size; omega)
    clear hf hb
    go_wp2_with fail
    refine hw.mono ?_
    rintro e W ⟨⟨v, rfl⟩, a1, cap1, ed1, hL1, hT1, hk1⟩
    have H2 : Hid (LAt W B db g caps L a1 cap1 false ed1) := hL1
    have T1 : Hid (Turn (fun b => b = db) w W) := ⟨hT1.os.trans HB.out.os, hT1.tape.trans HB.out.tape, hT1.output.trans HB.out.output, Nat.le_trans HB.out.size hT1.size, fun k hk hne => (hT1.block k (by have := HB.out.size; omega) hne).trans (HB.out.block k hk)⟩
    have HK1 : Hid (∀ k, (Value.slice a1 L.length cap1).ownBlock = some k → (lent = false ∧ (Value.slice a L.length cap).ownBlock = some k) ∨ w.heap.size ≤ k) := fun k hk => by
      rcases hk1 k hk with h | h
      · exact .inl h
      · exact .inr (by have := HB.out.size; omega)
    clear hw H1 HB hL1 hT1 hk1
    have c1 : W.cell? ⟨db, 1, none⟩ = some (.slice a1 L.length cap1) := H2.out.head.cell 1
    have hdel := delete_any W B a1 L.length cap1 k (cellsOf L) H2.out.row (cellsOf_one L) (by omega) hkl
    go_wp2_with fail
    refine hdel.mono ?_
    rintro e w3 ⟨rfl, p1, p2⟩
    have hd3 : IsCells w3 db #[.func (.func g) #[] caps, .slice a1 L.length cap1, .bool false, .int .u64 ed1] := H2.out.head.of_block (p2.block db H2.out.head.lt (fun e => H2.out.ne _ e.symm rfl))
    have c3 : w3.cell? ⟨db, 1, none⟩ = some (.slice a1 L.length cap1) := hd3.cell 1
    have f3 : w3.frozen? ⟨db, 1, none⟩ = false := hd3.frozen 1
    have HD : Hid (IsCells w3 db #[.func (.func g) #[] caps, .slice a1 L.length cap1, .bool false, .int .u64 ed1]) := hd3
    have P1 : Hid (w3.ownsRow B 28 2 (.slice a1 (L.length - 1) cap1) (L.length - 1) ((cellsOf L).take (k * 2) ++ (cellsOf L).drop ((k + 1) * 2))) := p1
    have P2 : Hid (W.grownBy w3 (Value.slice a1 L.length cap1).ownBlock) := p2
    clear hdel p1 p2 hd3 c1
    go_wp2
    go_ret
    have hlen : (L.take k ++ L.drop (k + 1)).length = L.length - 1 := by simp; omega
    have hz3 : W.heap.size ≤ w3.heap.size := P2.out.size
    have hz1 := T1.out.size
    have hob : (Value.slice a1 (L.length - 1) cap1).ownBlock = (Value.slice a1 L.length cap1).ownBlock := by cases a1 <;> rfl
    refine ⟨rfl, a1, cap1, false, ed1, ⟨?_, ?_, ?_, by rw [hlen]; omega⟩, ?_, (fun h => by cases h), ?_⟩
    · rw [hlen]
      simpa using HD.out.set 1 (.slice a1 (L.length - 1) cap1)
    · rw [hlen]
      refine own_of_block ?_ (fun j hj => Below.heap_setCell _ _ _ _ (H2.out.ne j (by rw [← hob]; exact hj)))
      rw [cellsOf_append, cellsOf_take, cellsOf_drop]
      exact P1.out
    · rw [hlen, hob]
      exact H2.out.ne
    · refine Turn.setCell (p := ⟨db, 1, none⟩) ?_ (.inl rfl) _
      refine ⟨P2.out.os.trans T1.out.os, P2.out.tape.trans T1.out.tape, P2.out.output.trans T1.out.output, by omega, fun j hj hn => ?_⟩
      refine (P2.out.block j (by omega) (fun e => ?_)).trans (T1.out.block j hj (fun e => hn (.inl e)))
      rcases HK1.out j e.symm with h | h
      · exact hn (.inr h)
      · omega
    · rw [hlen, hob]
      intro j hj
      rcases HK1.out j hj with h | h
      · exact .inl h
      · exact .inr (.inr h)

end Go.Proofs.Ytiggpbjgnododaa.T
