/- A list of elements that rise, in memory; find, Has, Rank, Len, Put at whole numbers, where nobody ranges over it. -/
import Derived.Test.YtiggpbjgnododaaIp
import Derived.Test.YtiggpbjgnododaaIi
namespace Go.Proofs.Ytiggpbjgnododaa.I
open Go.RowKit Go.Shelf
set_option linter.unusedVariables false
attribute [local go_sem] Bel.cell

def cellsOf (L : List (Int)) : List Value := L.map (Value.int .i64)

theorem cellsOf_length (L : List (Int)) : (cellsOf L).length = L.length * 1 := by simp [cellsOf]
theorem cellsOf_one (L : List (Int)) : ∀ u ∈ cellsOf L, u.oneCell' = true := by
  intro u hu
  obtain ⟨t, _, rfl⟩ := List.mem_map.1 hu
  rfl

/-- A list in memory. -/
structure LAt (w : World) (B db g : Nat) (caps : Array Value) (L : List (Int)) (a : Option Addr) (cap : Nat) (lent : Bool) (ed : Int) : Prop where
  head : IsCells w db #[.func (.func g) #[] caps, .slice a L.length cap, .bool lent, .int .u64 ed]
  row : w.ownsRow B 3 1 (.slice a L.length cap) L.length (cellsOf L)
  ne : ∀ k, (Value.slice a L.length cap).ownBlock = some k → k ≠ db
  len : L.length ≤ 8192

theorem LAt.below {w w' : World} {B db g : Nat} {caps : Array Value} {L : List (Int)} {a : Option Addr} {cap : Nat} {lent : Bool} {ed : Int} (h : LAt w B db g caps L a cap lent ed) (hb : Below w.heap.size w w') : LAt w' B db g caps L a cap lent ed :=
  ⟨h.head.of_block (hb.block _ h.head.lt), own_of_block h.row (fun k hk => hb.block k (own_block_lt h.row k hk).2), h.ne, h.len⟩

theorem LAt.items {w : World} {B db g : Nat} {caps : Array Value} {L : List (Int)} {a : Option Addr} {cap : Nat} {lent : Bool} {ed : Int} (h : LAt w B db g caps L a cap lent ed) : Items w a L := by
  intro i y hy
  obtain ⟨_, _, hc⟩ := row_cell h.row
  obtain ⟨g', e1, _, h2, h3⟩ := hc i (.int .i64 y) (by simp [cellsOf, hy])
  exact ⟨g', e1, h2, h3⟩

theorem LAt.addr {w : World} {B db g : Nat} {caps : Array Value} {L : List (Int)} {a : Option Addr} {cap : Nat} {lent : Bool} {ed : Int} (h : LAt w B db g caps L a cap lent ed) : ∀ rb o, a = some ⟨rb, o, none⟩ → rb < w.heap.size := by
  intro rb o e
  subst e
  exact (own_block_lt h.row rb rfl).2

set_option maxRecDepth 100000 in
set_option maxHeartbeats 1000000 in
theorem find_any (w : World) (B db g : Nat) (caps : Array Value) (L : List (Int)) (a : Option Addr) (cap : Nat) (lent : Bool) (ed : Int) (lt : Int → Int → Bool) (dom : Int → Prop) (x : Int) (k : Nat)
    (h : LAt w B db g caps L a cap lent ed) (hless : Less w g caps lt dom) (hx : dom x) (hL : ∀ y ∈ L, dom y) (hc : Cut lt L x k) :
    Calls Try.prog 64 #[.pointer (some ⟨db, 0, none⟩), .int .i64 x] w fun e w' => e = .returned (.tuple #[.int .i64 (k : Int), .bool (thereB lt L x k), .bool true]) ∧ Below w.heap.size w w' := by
  have hp := fun W (hb : Below w.heap.size w W) => place_any W g a cap caps lt dom x L k (h.below hb).items (h.below hb).addr (by have := h.len; omega) (hless.below hb) hx hL hc
  have hdl := h.head.lt
  have c0 : w.cell? ⟨db, 0, none⟩ = some (.func (.func g) #[] caps) := h.head.cell 0
  have c1 : w.cell? ⟨db, 1, none⟩ = some (.slice a L.length cap) := h.head.cell 1
  have c3 : w.cell? ⟨db, 3, none⟩ = some (.int .u64 ed) := h.head.cell 3
  obtain ⟨b, hbe⟩ : ∃ b, Hid (thereB lt L x k = b) := ⟨_, rfl⟩
  rw [hbe.out] at hp ⊢
  generalize L.length = n at *
  clear h hless hc
  go_enter Try.func64, Try.ntmps64
  go_wp2
  refine wp_region_bel (by kernel_rfl) (by kernel_rfl) ?_
  intro hne
  repeat go_big_quiet_step ((exact Calls.bel_of (hp _ (Bel.h _))))
  refine wpQuiet_nil ?_
  rintro _ ⟨u, rfl⟩
  go_wp2
  go_ret3
  exact ⟨rfl, u.h⟩

set_option maxRecDepth 100000 in
set_option maxHeartbeats 1000000 in
theorem rank_any (w : World) (B db g : Nat) (caps : Array Value) (L : List (Int)) (a : Option Addr) (cap : Nat) (lent : Bool) (ed : Int) (lt : Int → Int → Bool) (dom : Int → Prop) (x : Int) (k : Nat)
    (h : LAt w B db g caps L a cap lent ed) (hless : Less w g caps lt dom) (hx : dom x) (hL : ∀ y ∈ L, dom y) (hc : Cut lt L x k) :
    Calls Try.prog 26 #[.pointer (some ⟨db, 0, none⟩), .int .i64 x] w fun e w' => e = .returned (.int .i64 (k : Int)) ∧ Below w.heap.size w w' := by
  have hf := find_any w B db g caps L a cap lent ed lt dom x k h hless hx hL hc
  clear h hless hL hc
  go_enter Try.func26, Try.ntmps26
  go_wp2_with fail
  refine hf.mono ?_
  rintro e w1 ⟨rfl, hb⟩
  have HB : Hid (Below w.heap.size w w1) := hb
  clear hf hb
  go_wp2
  go_ret
  exact ⟨rfl, HB.out⟩

set_option maxRecDepth 100000 in
set_option maxHeartbeats 1000000 in
theorem len_any (w : World) (B db g : Nat) (caps : Array Value) (L : List (Int)) (a : Option Addr) (cap : Nat) (lent : Bool) (ed : Int) (h : LAt w B db g caps L a cap lent ed) :
    Calls Try.prog 29 #[.pointer (some ⟨db, 0, none⟩)] w fun e w' => e = .returned (.int .i64 (L.length : Int)) ∧ w' = w := by
  have c1 : w.cell? ⟨db, 1, none⟩ = some (.slice a L.length cap) := h.head.cell 1
  have hl : (L.length : Int) ≤ 8192 := by have := h.len; omega
  clear h
  go_enter Try.func29, Try.ntmps29
  go_wp2
  go_ret
  exact ⟨rfl, rfl⟩

set_option maxRecDepth 100000 in
set_option maxHeartbeats 1000000 in
theorem own_free (w : World) (B db g : Nat) (caps : Array Value) (L : List (Int)) (a : Option Addr) (cap : Nat) (ed : Int) (h : LAt w B db g caps L a cap false ed) :
    Calls Try.prog 65 #[.pointer (some ⟨db, 0, none⟩)] w fun e w' => (∃ v, e = .returned v) ∧ ∃ ed', w' = w.setCell ⟨db, 3, none⟩ (.int .u64 ed') := by
  have c2 : w.cell? ⟨db, 2, none⟩ = some (.bool false) := h.head.cell 2
  have c3 : w.cell? ⟨db, 3, none⟩ = some (.int .u64 ed) := h.head.cell 3
  have f3 : w.frozen? ⟨db, 3, none⟩ = false := h.head.frozen 3
  clear h
  go_enter Try.func65, Try.ntmps65
  go_wp2
  go_end0
  exact ⟨⟨_, rfl⟩, _, rfl⟩

/-- What Put answers. -/
def putE (lt : Int → Int → Bool) (L : List (Int)) (x : Int) (k : Nat) : Int := if thereB lt L x k then 70 else if 8192 ≤ L.length then 2 else 0
/-- What is there behind it. -/
def putL (lt : Int → Int → Bool) (L : List (Int)) (x : Int) (k : Nat) : List (Int) := if thereB lt L x k then L else if 8192 ≤ L.length then L else L.take k ++ [x] ++ L.drop k

/-- The blocks of a list. -/
def OwnL (db : Nat) (v : Value) (b : Nat) : Prop := b = db ∨ v.ownBlock = some b

def PutP (w : World) (B db g : Nat) (caps : Array Value) (a : Option Addr) (n cap : Nat) (E : Int) (L' : List (Int)) (e : Ending) (w' : World) : Prop :=
  e = .returned (.int .i64 E) ∧ ∃ a' cap' ed', LAt w' B db g caps L' a' cap' false ed' ∧ Turn (OwnL db (.slice a n cap)) w w' ∧ (∀ k, (Value.slice a' L'.length cap').ownBlock = some k → OwnL db (.slice a n cap) k ∨ w.heap.size ≤ k)

theorem LAt.edit {w : World} {B db g : Nat} {caps : Array Value} {L : List (Int)} {a : Option Addr} {cap : Nat} {lent : Bool} {ed : Int} (h : LAt w B db g caps L a cap lent ed) (ed' : Int) : LAt (w.setCell ⟨db, 3, none⟩ (.int .u64 ed')) B db g caps L a cap lent ed' :=
  ⟨by simpa using h.head.set 3 (.int .u64 ed'), own_of_block h.row (fun k hk => Below.heap_setCell _ _ _ _ (h.ne k hk)), h.ne, h.len⟩

set_option maxRecDepth 100000 in
set_option maxHeartbeats 1000000 in
theorem put_any (w : World) (B db g : Nat) (caps : Array Value) (L : List (Int)) (a : Option Addr) (cap : Nat) (ed : Int) (lt : Int → Int → Bool) (dom : Int → Prop) (x : Int) (k : Nat)
    (h : LAt w B db g caps L a cap false ed) (hB : B ≤ w.heap.size) (hless : Less w g caps lt dom) (hx : dom x) (hL : ∀ y ∈ L, dom y) (hc : Cut lt L x k) :
    Calls Try.prog 25 #[.pointer (some ⟨db, 0, none⟩), .int .i64 x] w (PutP w B db g caps a L.length cap (putE lt L x k) (putL lt L x k)) := by
  have hf := find_any w B db g caps L a cap false ed lt dom x k h hless hx hL hc
  have hkl := hc.le
  have H : Hid (LAt w B db g caps L a cap false ed) := h
  clear h hless hL hc
  by_cases ht : thereB lt L x k = true
  · rw [ht] at hf
    have e1 : putE lt L x k = 70 := by simp [putE, ht]
    have e2 : putL lt L x k = L := by simp [putL, ht]
    rw [e1, e2]
    clear e1 e2 ht
    go_enter Try.func25, Try.ntmps25
    go_wp2_with fail
    refine hf.mono ?_
    rintro e w1 ⟨rfl, hb⟩
    have HB : Hid (Below w.heap.size w w1) := hb
    clear hf hb
    go_wp2
    go_ret
    exact ⟨rfl, a, cap, ed, H.out.below HB.out, (Turn.refl _ w).then HB.out (Nat.le_refl _), fun k hk => .inl (.inr hk)⟩
  · have ht' : thereB lt L x k = false := by simpa using ht
    rw [ht'] at hf
    by_cases h8 : 8192 ≤ L.length
    · have e1 : putE lt L x k = 2 := by simp [putE, ht', h8]
      have e2 : putL lt L x k = L := by simp [putL, ht', h8]
      rw [e1, e2]
      have h8' : (8192 : Int) ≤ (L.length : Int) := by omega
      have hl8 := H.out.len
      have hl9 : (L.length : Int) ≤ 8192 := by omega
      clear e1 e2 ht ht' h8
      go_enter Try.func25, Try.ntmps25
      go_wp2_with fail
      refine hf.mono ?_
      rintro e w1 ⟨rfl, hb⟩
      have HB : Hid (Below w.heap.size w w1) := hb
      have c1 : w1.cell? ⟨db, 1, none⟩ = some (.slice a L.length cap) := (H.out.below hb).head.cell 1
      clear hf hb
      go_wp2
      go_ret
      exact ⟨rfl, a, cap, ed, H.out.below HB.out, (Turn.refl _ w).then HB.out (Nat.le_refl _), fun k hk => .inl (.inr hk)⟩
    · have e1 : putE lt L x k = 0 := by simp [putE, ht', h8]
      have e2 : putL lt L x k = L.take k ++ [x] ++ L.drop k := by simp only [putL, ht', h8]; simp
      rw [e1, e2]
      have h8' : (L.length : Int) < 8192 := by omega
      clear e1 e2 ht ht'
      go_enter Try.func25, Try.ntmps25
      go_wp2_with fail
      refine hf.mono ?_
      rintro e w1 ⟨rfl, hb⟩
      have HB : Hid (Below w.heap.size w w1) := hb
      have H1 : Hid (LAt w1 B db g caps L a cap false ed) := H.out.below hb
      have c1 : w1.cell? ⟨db, 1, none⟩ = some (.slice a L.length cap) := H1.out.head.cell 1
      have hw := own_free w1 B db g caps L a cap ed H1.out
      clear hf hb
      go_wp2_with fail
      refine hw.mono ?_
      rintro e w2 ⟨⟨v, rfl⟩, ed', rfl⟩
      have H2 : Hid (LAt (w1.setCell ⟨db, 3, none⟩ (.int .u64 ed')) B db g caps L a cap false ed') := H1.out.edit ed'
      have T2 : Hid (Turn (OwnL db (.slice a L.length cap)) w (w1.setCell ⟨db, 3, none⟩ (.int .u64 ed'))) := ((Turn.refl _ w).then HB.out (Nat.le_refl _)).setCell (p := ⟨db, 3, none⟩) (.inl rfl) _
      clear hw H1 HB c1
      generalize w1.setCell ⟨db, 3, none⟩ (.int .u64 ed') = W at *
      have c1 : W.cell? ⟨db, 1, none⟩ = some (.slice a L.length cap) := H2.out.head.cell 1
      have hdl := H2.out.head.lt
      have hbz := T2.out.size
      have hins := insert_any (W.alloc (.cells #[.int .i64 x] 3)) B a L.length cap W.heap.size k (cellsOf L) [.int .i64 x] (own_of_block H2.out.row (fun k hk => Below.heap_alloc _ _ _ (own_block_lt H2.out.row k hk).2)) (heap_alloc_new W _) rfl (by intro u hu; simp at hu; subst hu; rfl) (cellsOf_one L) (by omega) (by simp; omega) hkl
        (fun e => by have := (own_block_lt H2.out.row _ e).2; omega)
      go_wp2_with fail
      refine hins.mono ?_
      rintro e w3 ⟨v', rfl, p1, p2, p3⟩
      obtain ⟨a', cap', rfl⟩ := own_slice p1
      have hne3 : some db ≠ (Value.slice a L.length cap).ownBlock := fun e => H2.out.ne _ e.symm rfl
      have hd3 : IsCells w3 db #[.func (.func g) #[] caps, .slice a L.length cap, .bool false, .int .u64 ed'] := (H2.out.head.alloc _).of_block (p2.block db (by simp; omega) hne3)
      have c13 : w3.cell? ⟨db, 1, none⟩ = some (.slice a L.length cap) := hd3.cell 1
      have f13 : w3.frozen? ⟨db, 1, none⟩ = false := hd3.frozen 1
      have HD : Hid (IsCells w3 db #[.func (.func g) #[] caps, .slice a L.length cap, .bool false, .int .u64 ed']) := hd3
      have P1 : Hid (w3.ownsRow B 3 1 (.slice a' (L.length + 1) cap') (L.length + 1) ((cellsOf L).take (k * 1) ++ [.int .i64 x] ++ (cellsOf L).drop (k * 1))) := p1
      have P2 : Hid ((W.alloc (.cells #[.int .i64 x] 3)).grownBy w3 (Value.slice a L.length cap).ownBlock) := p2
      have P3 : Hid ((Value.slice a' (L.length + 1) cap').ownBlock = (Value.slice a L.length cap).ownBlock ∨ (Value.slice a' (L.length + 1) cap').ownBlock = some (W.alloc (.cells #[.int .i64 x] 3)).heap.size) := p3
      clear hins p1 p2 p3 hd3 c1
      go_wp2
      go_ret
      have hlen : (L.take k ++ [x] ++ L.drop k).length = L.length + 1 := by simp; omega
      have hz3 : W.heap.size + 1 ≤ w3.heap.size := by have := P2.out.size; simpa using this
      have hbk : ∀ k, (Value.slice a' (L.length + 1) cap').ownBlock = some k → OwnL db (.slice a L.length cap) k ∧ k ≠ db ∨ W.heap.size ≤ k := fun k hk => by
        rcases P3.out with e | e
        · rw [e] at hk
          exact .inl ⟨.inr hk, H2.out.ne k hk⟩
        · rw [e] at hk
          simp at hk
          exact .inr (by omega)
      have hnd : ∀ k, (Value.slice a' (L.length + 1) cap').ownBlock = some k → k ≠ db := fun k hk => by
        rcases hbk k hk with h | h
        · exact h.2
        · omega
      refine ⟨rfl, a', cap', ed', ⟨?_, ?_, ?_, by rw [hlen]; omega⟩, ?_, ?_⟩
      · rw [hlen]
        simpa using HD.out.set 1 (.slice a' (L.length + 1) cap')
      · rw [hlen]
        refine own_of_block ?_ (fun k hk => Below.heap_setCell _ _ _ _ (hnd k hk))
        have e : cellsOf (L.take k ++ [x] ++ L.drop k) = (cellsOf L).take (k * 1) ++ [.int .i64 x] ++ (cellsOf L).drop (k * 1) := by simp [cellsOf]
        rw [e]
        exact P1.out
      · rw [hlen]
        exact hnd
      · refine (T2.out.trans ⟨P2.out.os, P2.out.tape, P2.out.output, by omega, fun j hj hn => ?_⟩).setCell (p := ⟨db, 1, none⟩) (.inl rfl) _
        exact (P2.out.block j (by simp; omega) (fun e => hn (.inr e.symm))).trans (Below.heap_alloc _ _ _ hj)
      · rw [hlen]
        intro k hk
        rcases hbk k hk with h | h
        · exact .inl h.1
        · exact .inr (by omega)

end Go.Proofs.Ytiggpbjgnododaa.I
