/- OrderedActs: every act on a list and on the document's. -/
import Derived.Test.YtiggpbjgnododaaTdp
import Derived.Test.YtiggpbjgnododaaTdh
import Derived.Test.YtiggpbjgnododaaTdr
namespace Go.Proofs.Ytiggpbjgnododaa.T
open Go.RowKit Go.Shelf
set_option linter.unusedVariables false

theorem does_any (w : World) (B db rb : Nat) (L : List (Int × Int)) (a : Option Addr) (cap : Nat) (lent : Bool) (ed : Int) (ra : Option Addr) (rc : Nat) (kind stop : Int) (x : Int × Int) (h : Both w B db rb L a cap lent ed ra rc) (hr : Rise kf L) (hB : B ≤ w.heap.size) :
    Calls Try.prog 10 #[.pointer (some ⟨db, 0, none⟩), .pointer (some ⟨rb, 0, none⟩), .agg #[.int .i64 kind, .int .i64 stop, .int .i64 x.1, .int .i64 x.2]] w fun e w' => e = .returned (.bool true) ∧ DoP w B db rb a L.length cap lent (.slice ra L.length rc) w' := by
  by_cases h0 : kind = 0
  · subst h0; exact does_put w B db rb L a cap lent ed ra rc stop x h hr hB
  by_cases h1 : kind = 1
  · subst h1; exact does_drop w B db rb L a cap lent ed ra rc stop x h hr hB
  by_cases h2 : kind = 2
  · subst h2; exact does_has w B db rb L a cap lent ed ra rc stop x h hr hB
  by_cases h3 : kind = 3
  · subst h3
    by_cases hn : x.1 < 0 ∨ (L.length : Int) ≤ x.1
    · exact does_at_none w B db rb L a cap lent ed ra rc stop x h hr hB hn
    · obtain ⟨k, m⟩ := x
      obtain ⟨i, rfl⟩ : ∃ i : Nat, k = (i : Int) := ⟨k.toNat, by simp at hn; omega⟩
      exact does_at_some w B db rb L a cap lent ed ra rc stop i m h hr hB (by simp at hn; omega)
  · exact does_range w B db rb L a cap lent ed ra rc kind stop x h hr hB (by simpa using h0) (by simpa using h1) (by simpa using h2) (by simpa using h3)

set_option maxRecDepth 100000 in
set_option maxHeartbeats 1000000 in
theorem new_any (w : World) (g : Nat) (caps : Array Value) : Calls Try.prog 8 #[.func (.func g) #[] caps] w fun e w' => e = .returned (.tuple #[.pointer (some ⟨w.heap.size, 0, none⟩), .int .i64 0]) ∧ w' = w.alloc (.cells #[.func (.func g) #[] caps, .slice none 0 0, .bool false, .int .u64 0] 82) := by
  have hq : ∀ w, (binOp .eql 29 (.func (.func g) #[] caps) .nilFunc).run Try.prog w = .ok (.bool false) w := fun _ => by kernel_rfl
  go_enter Try.func8, Try.ntmps8
  go_wp2
  go_ret2
  exact ⟨rfl, rfl⟩

set_option maxRecDepth 100000 in
set_option maxHeartbeats 1000000 in
theorem new_nil (w : World) : Calls Try.prog 12 #[.nilFunc] w fun e w' => e = .returned (.tuple #[.pointer none, .int .i64 1]) ∧ w' = w := by
  have hq : ∀ w, (binOp .eql 61 .nilFunc .nilFunc).run Try.prog w = .ok (.bool true) w := fun _ => by kernel_rfl
  go_enter Try.func12, Try.ntmps12
  go_wp2
  go_ret2
  exact ⟨rfl, rfl⟩

theorem LAt.new (w : World) (g B : Nat) (caps : Array Value) : LAt (w.alloc (.cells #[.func (.func g) #[] caps, .slice none 0 0, .bool false, .int .u64 0] 82)) B w.heap.size g caps [] none 0 false 0 :=
  ⟨isCells_new w _ _, ⟨by simp [cellsOf], .inl ⟨rfl, rfl⟩⟩, fun k hk => (by cases hk), Nat.zero_le _⟩

/-- A slice of acts. -/
def IsActs (w : World) (a : Option Addr) (n : Nat) : Prop :=
  ∀ i, i < n → ∃ b off kind stop key mark, a = some ⟨b, off, none⟩ ∧ b < w.heap.size ∧ w.cell? ⟨b, off + i * 4, none⟩ = some (.int .i64 kind) ∧ w.cell? ⟨b, off + i * 4 + 1, none⟩ = some (.int .i64 stop) ∧ w.cell? ⟨b, off + i * 4 + 2, none⟩ = some (.int .i64 key) ∧ w.cell? ⟨b, off + i * 4 + 3, none⟩ = some (.int .i64 mark)

/-- A list and the document's, both made since w, hold the same. -/
def Pair (w : World) (db rb : Nat) (X : World) : Prop :=
  ∃ L a cap lent ed ra rc, Both X w.heap.size db rb L a cap lent ed ra rc ∧ Rise kf L ∧ Below w.heap.size w X

theorem Pair.new (w : World) : Pair w w.heap.size (w.heap.size + 1) ((w.alloc (.cells #[.func (.func 9) #[] #[], .slice none 0 0, .bool false, .int .u64 0] 82)).alloc (.cells #[.slice none 0 0] 33)) := by
  refine ⟨[], none, 0, false, 0, none, 0, ⟨(LAt.new w 9 _ #[]).below (bel1 _ _), ⟨?_, ⟨by simp [cellsOf], .inl ⟨rfl, rfl⟩⟩, fun k hk => (by cases hk), Nat.zero_le _⟩, by omega, fun k hk => (by cases hk), fun k hk => (by cases hk), fun k hk => (by cases hk)⟩, List.Pairwise.nil, ((Below.refl _ w).alloc (Nat.le_refl _) _).alloc (by simp) _⟩
  have := isCells_new (w.alloc (.cells #[.func (.func 9) #[] #[], .slice none 0 0, .bool false, .int .u64 0] 82)) #[.slice none 0 0] 33
  simpa using this

theorem turn_below {w X Y : World} {A : Nat → Prop} (h : Below w.heap.size w X) (t : Turn A X Y) (hA : ∀ k, A k → w.heap.size ≤ k) : Below w.heap.size w Y :=
  ⟨t.os.trans h.os, t.tape.trans h.tape, t.output.trans h.output, Nat.le_trans h.size t.size, fun k hk => (t.block k (Nat.lt_of_lt_of_le hk h.size) (fun ha => by have := hA k ha; omega)).trans (h.block k hk)⟩

theorem Pair.does {w X : World} {db rb : Nat} (h : Pair w db rb X) (hd : w.heap.size ≤ db) (hr : w.heap.size ≤ rb) (kind stop : Int) (x : Int × Int) :
    Calls Try.prog 10 #[.pointer (some ⟨db, 0, none⟩), .pointer (some ⟨rb, 0, none⟩), .agg #[.int .i64 kind, .int .i64 stop, .int .i64 x.1, .int .i64 x.2]] X fun e Y => e = .returned (.bool true) ∧ Hid (Pair w db rb Y) := by
  obtain ⟨L, a, cap, lent, ed, ra, rc, h1, h2, h3⟩ := h
  refine (does_any X w.heap.size db rb L a cap lent ed ra rc kind stop x h1 h2 h3.size).mono ?_
  rintro e Y ⟨rfl, L', a', cap', lent', ed', ra', rc', q1, q2, q3, q4, q5⟩
  refine ⟨rfl, L', a', cap', lent', ed', ra', rc', q1, q2, turn_below h3 q3 (fun k hk => ?_)⟩
  rcases hk with hk | hk | ⟨_, hk⟩
  · omega
  · omega
  · exact (own_block_lt h1.list.row k hk).1

theorem Pair.all {w X : World} {db rb : Nat} (h : Pair w db rb X) (hd : w.heap.size ≤ db) :
    Calls Try.prog 11 #[.pointer (some ⟨db, 0, none⟩), .pointer (some ⟨rb, 0, none⟩)] X fun e Y => e = .returned (.bool true) ∧ Hid (Pair w db rb Y) := by
  obtain ⟨L, a, cap, lent, ed, ra, rc, h1, h2, h3⟩ := h
  refine (all_same X w.heap.size db rb L a cap lent ed ra rc h1 h3.size).mono ?_
  rintro e Y ⟨rfl, ⟨l', _, q1⟩, q2⟩
  exact ⟨rfl, L, a, cap, l', ed, ra, rc, ⟨q1, h1.ref.turned (db := db) (fun e => h1.ne e.symm) h1.rowd q2, h1.ne, h1.rowr, h1.rowd, h1.rows⟩, h2, turn_below h3 q2 (fun k hk => by have hk' : k = db := hk; omega)⟩

theorem Pair.below {w X : World} {db rb : Nat} (h : Pair w db rb X) : Below w.heap.size w X := by
  obtain ⟨L, a, cap, lent, ed, ra, rc, h1, h2, h3⟩ := h
  exact h3

set_option maxRecDepth 100000 in
set_option maxHeartbeats 4000000 in
theorem acts_walk (a : Option Addr) (n cap : Nat) (w : World) (h : IsActs w a n) (hn : n ≤ 4398046511104) :
    Calls Try.prog 3 #[.slice a n cap] w fun e w' => e = .returned (.bool true) ∧ Below w.heap.size w w' := by
  have hn' : (n : Int) ≤ 4398046511104 := by omega
  have hnew := new_any w 9 #[]
  have HA : Hid (IsActs w a n) := h
  have HP0 : Hid (Pair w w.heap.size (w.heap.size + 1) ((w.alloc (.cells #[.func (.func 9) #[] #[], .slice none 0 0, .bool false, .int .u64 0] 82)).alloc (.cells #[.slice none 0 0] 33))) := Pair.new w
  clear h
  go_enter Try.func3, Try.ntmps3
  go_wp2_with fail
  refine hnew.mono ?_
  rintro e W1 ⟨rfl, rfl⟩
  clear hnew
  go_wp2
  go_loopw [6] (fun i wr => ∃ k : Nat, k ≤ n ∧ i = .int .i64 (k : Int) ∧ Hid (Pair w w.heap.size (w.heap.size + 1) wr)) (fun i _ => n - (intOf i).toNat)
  case atStart => exact ⟨0, Nat.zero_le _, rfl, HP0⟩
  case round =>
    obtain ⟨k, hk, rfl, hP⟩ := hrel
    clear HP0
    by_cases hlt : k < n
    · obtain ⟨b, off, kind, stop, key, mark, rfl, hb, z0, z1, z2, z3⟩ := HA.out k hlt
      have hdo := hP.out.does (Nat.le_refl _) (by omega) kind stop (key, mark)
      dsimp only at hdo
      have hbw := hP.out.below
      have y0 : wr.cell? ⟨b, off + k * 4, none⟩ = some (.int .i64 kind) := (hbw.cell (p := ⟨b, off + k * 4, none⟩) hb).trans z0
      have y1 : wr.cell? ⟨b, off + k * 4 + 1, none⟩ = some (.int .i64 stop) := (hbw.cell (p := ⟨b, off + k * 4 + 1, none⟩) hb).trans z1
      have y2 : wr.cell? ⟨b, off + k * 4 + 2, none⟩ = some (.int .i64 key) := (hbw.cell (p := ⟨b, off + k * 4 + 2, none⟩) hb).trans z2
      have y3 : wr.cell? ⟨b, off + k * 4 + 3, none⟩ = some (.int .i64 mark) := (hbw.cell (p := ⟨b, off + k * 4 + 3, none⟩) hb).trans z3
      have hk1 : (k : Int) < (n : Int) := by omega
      have hk2 : (0 : Int) ≤ (k : Int) := by omega
      clear hbw z0 z1 z2 z3 hP
      go_wp2_with fail
      refine hdo.mono ?_
      rintro e W2 ⟨rfl, hP2⟩
      clear hdo y0 y1 y2 y3
      have hall := hP2.out.all (Nat.le_refl _)
      go_wp2_with fail
      case roundEnd => exact ⟨⟨k + 1, by omega, by go_num, hP2⟩, by simp [intOf]; omega⟩
      refine hall.mono ?_
      rintro e W3 ⟨rfl, hP3⟩
      clear hall
      go_wp2
      go_roundw
      case rel => exact ⟨k + 1, by omega, by go_num, hP3⟩
      case measure => simp [intOf]; omega
    · have hnil := new_nil wr
      have hall := hP.out.all (Nat.le_refl _)
      go_wp2_with fail
      refine hnil.mono ?_
      rintro e W2 ⟨rfl, rfl⟩
      clear hnil
      go_wp2_with fail
      refine hall.mono ?_
      rintro e W3 ⟨rfl, hP3⟩
      clear hall
      go_wp2
      go_ret
      exact ⟨rfl, hP3.out.below⟩

end Go.Proofs.Ytiggpbjgnododaa.T
