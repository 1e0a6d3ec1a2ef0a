/- What Name and Blank answer, the program's and the document's. -/
import Derived.Test.YtmifejkddgcbmaaGreatA03
namespace Go.Proofs.YtmifejkddgcbmaaGreat
open Go.RowKit
set_option linter.unusedVariables false
set_option linter.unusedSimpArgs false

def blankL (l : List UInt8) : Bool := l.all fun b => blankB b.toNat
def nameL (l : List UInt8) : Bool := decide (1 ≤ l.length ∧ l.length ≤ 32) && (l.take 1).all (fun b => beginB b.toNat) && l.all fun b => inB b.toNat

theorem take_snoc {α : Type} {l : List α} {i : Nat} (h : i < l.length) : l.take (i + 1) = l.take i ++ [l[i]] := by rw [List.take_add_one, List.getElem?_eq_getElem h]; rfl

set_option maxRecDepth 100000 in
set_option maxHeartbeats 1000000 in
theorem blankl_walk (w : World) (s : ByteArray) (h : s.size < 1152921504606846976) (x : Bool) (hx : blankL s.data.toList = x) :
    Calls Tryz.prog 91 #[.string s] w fun e w' => e = .returned (.bool x) ∧ Below w.heap.size w w' := by
  obtain ⟨W, cap, hrun, hbel, hWs, hc⟩ := conv_bytes w s
  have hl := size_list s
  have HC : Hid (∀ j (hj : j < s.data.toList.length), W.cell? ⟨w.heap.size, j, none⟩ = some (.int .u8 ((s.data.toList[j]).toNat : Int))) := bytes_cell hc
  have HX : Hid (blankL s.data.toList = x) := hx
  have HW : Hid (Below w.heap.size w W) := hbel
  generalize s.data.toList = l at *
  clear hc hx hbel
  go_enter Tryz.func91, Tryz.ntmps91
  go_wp2
  go_loop [8] (fun v => ∃ i : Nat, i ≤ s.size ∧ v = .int .i64 (i : Int) ∧ Hid ((l.take i).all (fun b => blankB b.toNat) = true)) (fun v => s.size - (intOf v).toNat)
  case atStart => exact ⟨0, by omega, rfl, rfl⟩
  case round =>
    obtain ⟨i, hi, rfl, hall⟩ := hrel
    by_cases hlt : i < s.size
    · have hcell := HC.out i (by omega)
      have hts := take_snoc (l := l) (i := i) (by omega)
      generalize hx : (l[i]'(by omega)) = b at hcell hts
      have hbl := blank_any W b.toNat b.toNat_lt
      cases hB : blankB b.toNat <;> rw [hB] at hbl
      · have hfin : x = false := by
          rw [← HX.out, blankL, List.all_eq_false]
          exact ⟨b, by rw [← hx]; exact List.getElem_mem _, by simp [hB]⟩
        clear HX
        go_wp2_with fail
        refine hbl.mono ?_
        rintro e w2 ⟨rfl, rfl⟩
        go_wp2
        go_ret
        first | exact ⟨congrArg _ (v_bool hfin.symm), HW.out⟩ | exact ⟨rfl, HW.out⟩
      · clear HX
        go_wp2_with fail
        refine hbl.mono ?_
        rintro e w2 ⟨rfl, rfl⟩
        go_wp2
        go_round
        case rel =>
          refine ⟨i + 1, by omega, by go_num, ?_⟩
          show (l.take (i + 1)).all (fun b => blankB b.toNat) = true
          rw [hts, List.all_append, hall.out]
          simp [hB]
        case measure => simp [intOf]; omega
    · have hfin : x = true := by
        rw [← HX.out, blankL, ← hall.out, List.take_of_length_le (by omega)]
      clear HX
      go_wp2
      go_ret
      first | exact ⟨congrArg _ (v_bool hfin.symm), HW.out⟩ | exact ⟨rfl, HW.out⟩

theorem name_false_of {l : List UInt8} {i : Nat} (hi : i < l.length) (h : inB (l[i]).toNat = false ∨ (i = 0 ∧ beginB (l[i]).toNat = false)) : nameL l = false := by
  rcases h with h | ⟨h0, h⟩
  · have : (l.all fun b => inB b.toNat) = false := by
      rw [List.all_eq_false]
      exact ⟨l[i], List.getElem_mem _, by simp [h]⟩
    simp [nameL, this]
  · subst h0
    have : ((l.take 1).all fun b => beginB b.toNat) = false := by
      rw [List.all_eq_false]
      refine ⟨l[0], ?_, by simp [h]⟩
      rw [List.mem_take_iff_getElem]
      exact ⟨0, by omega, rfl⟩
    simp [nameL, this]

set_option maxRecDepth 100000 in
set_option maxHeartbeats 1000000 in
theorem name_out (w : World) (s : ByteArray) (h : s.toList.isEmpty = true ∨ 32 < s.size) :
    Calls Tryz.prog 65 #[.string s] w fun e w' => e = .returned (.bool false) ∧ w' = w := by
  cases h1 : s.toList.isEmpty
  · have h2 : 32 < s.size := by
      rcases h with h | h
      · rw [h1] at h; simp at h
      · exact h
    clear h
    go_enter Tryz.func65, Tryz.ntmps65
    go_wp2
    go_ret
    exact ⟨rfl, rfl⟩
  · clear h
    go_enter Tryz.func65, Tryz.ntmps65
    go_wp2
    go_ret
    exact ⟨rfl, rfl⟩

set_option maxRecDepth 100000 in
set_option maxHeartbeats 4000000 in
theorem name_walk (w : World) (s : ByteArray) (h0 : 0 < s.size) (h : s.size ≤ 32) (x : Bool) (hx : nameL s.data.toList = x) :
    Calls Tryz.prog 65 #[.string s] w fun e w' => e = .returned (.bool x) ∧ Below w.heap.size w w' := by
  obtain ⟨W, cap, hrun, hbel, hWs, hc⟩ := conv_bytes w s
  have hne := notEmpty h0
  have hl := size_list s
  have HC : Hid (∀ j (hj : j < s.data.toList.length), W.cell? ⟨w.heap.size, j, none⟩ = some (.int .u8 ((s.data.toList[j]).toNat : Int))) := bytes_cell hc
  have HX : Hid (nameL s.data.toList = x) := hx
  have HW : Hid (Below w.heap.size w W) := hbel
  generalize s.data.toList = l at *
  clear hc hx hbel
  go_enter Tryz.func65, Tryz.ntmps65
  go_wp2
  go_loop [15] (fun v => ∃ i : Nat, i ≤ s.size ∧ v = .int .i64 (i : Int) ∧ Hid (∀ j (hj : j < l.length), j < i → inB (l[j]).toNat = true ∧ (j = 0 → beginB (l[j]).toNat = true))) (fun v => s.size - (intOf v).toNat)
  case atStart => exact ⟨0, by omega, rfl, fun j hj h => by omega⟩
  case round =>
    obtain ⟨i, hi, rfl, hall⟩ := hrel
    by_cases hlt : i < s.size
    · have hcell := HC.out i (by omega)
      have HF : Hid ((inB (l[i]'(by omega)).toNat = false ∨ (i = 0 ∧ beginB (l[i]'(by omega)).toNat = false)) → x = false) := fun h => by rw [← HX.out]; exact name_false_of (by omega) h
      have HS : Hid (inB (l[i]'(by omega)).toNat = true ∧ (i = 0 → beginB (l[i]'(by omega)).toNat = true) → ∀ j (hj : j < l.length), j < i + 1 → inB (l[j]).toNat = true ∧ (j = 0 → beginB (l[j]).toNat = true)) := by
        intro h j hj hji
        rcases Nat.lt_or_ge j i with h1 | h1
        · exact hall.out j hj h1
        · have : j = i := by omega
          subst this
          exact h
      have hb256 : ((l[i]'(by omega)).toNat : Int) < 256 := by have := UInt8.toNat_lt (l[i]'(by omega)); omega
      generalize (l[i]'(by omega)).toNat = b at hcell HF HS hb256
      have h95 : ((b : Int) == 95) = decide (b = 95) := by rw [Bool.eq_iff_iff]; simp; omega
      have h45 : ((b : Int) == 45) = decide (b = 45) := by rw [Bool.eq_iff_iff]; simp; omega
      have h46 : ((b : Int) == 46) = decide (b = 46) := by rw [Bool.eq_iff_iff]; simp; omega
      have h00 : ((i : Int) == 0) = decide (i = 0) := by rw [Bool.eq_iff_iff]; simp
      clear HX HC hall
      go_wp2
      all_goals first
        | (go_ret
           refine ⟨congrArg _ (v_bool (HF.out ?_).symm), HW.out⟩
           simp only [inB, beginB, decide_eq_false_iff_not]
           omega)
        | (go_round
           case rel =>
             refine ⟨i + 1, by omega, by go_num, HS.out ?_⟩
             simp only [inB, beginB, decide_eq_true_eq]
             omega
           case measure => simp [intOf]; omega)
    · have hfin : x = true := by
        have ha := hall.out
        have h1 : (l.all fun b => inB b.toNat) = true := by
          rw [List.all_eq_true]
          intro b hb
          obtain ⟨j, hj, rfl⟩ := List.getElem_of_mem hb
          exact (ha j hj (by omega)).1
        have h2 : ((l.take 1).all fun b => beginB b.toNat) = true := by
          rw [List.all_eq_true]
          intro b hb
          rw [List.mem_take_iff_getElem] at hb
          obtain ⟨j, hj, rfl⟩ := hb
          exact (ha j (by omega) (by omega)).2 (by omega)
        rw [← HX.out, nameL, h1, h2]
        simp
        omega
      clear HX HC hall
      go_wp2
      go_ret
      first | exact ⟨congrArg _ (v_bool hfin.symm), HW.out⟩ | exact ⟨rfl, HW.out⟩

set_option maxRecDepth 100000 in
set_option maxHeartbeats 1000000 in
theorem rname_out (w : World) (s : ByteArray) (h : s.size < 1 ∨ 32 < s.size) :
    Calls Tryz.prog 101 #[.string s] w fun e w' => e = .returned (.bool false) ∧ w' = w := by
  rcases Nat.lt_or_ge s.size 1 with h1 | h1
  · clear h
    go_enter Tryz.func101, Tryz.ntmps101
    go_wp2
    go_ret
    exact ⟨rfl, rfl⟩
  · have h2 : 32 < s.size := by omega
    clear h
    go_enter Tryz.func101, Tryz.ntmps101
    go_wp2
    go_ret
    exact ⟨rfl, rfl⟩

set_option maxRecDepth 100000 in
set_option maxHeartbeats 1000000 in
theorem rname_not (w : World) (s : ByteArray) (h0 : 0 < s.size) (h : s.size ≤ 32) (hb : beginB (s[0]'h0).toNat = false) :
    Calls Tryz.prog 101 #[.string s] w fun e w' => e = .returned (.bool false) ∧ w' = w := by
  have hbg := begins_any w (s[0]'h0).toNat (UInt8.toNat_lt _)
  rw [hb] at hbg
  go_enter Tryz.func101, Tryz.ntmps101
  go_wp2_with fail
  refine hbg.mono ?_
  rintro e w2 ⟨rfl, rfl⟩
  go_wp2
  go_ret
  exact ⟨rfl, rfl⟩

set_option maxRecDepth 100000 in
set_option maxHeartbeats 1000000 in
theorem rname_walk (w : World) (s : ByteArray) (h0 : 0 < s.size) (h : s.size ≤ 32) (hb : beginB (s[0]'h0).toNat = true) (x : Bool) (hx : (s.data.toList.all fun b => inB b.toNat) = x) :
    Calls Tryz.prog 101 #[.string s] w fun e w' => e = .returned (.bool x) ∧ w' = w := by
  have hbg := begins_any w (s[0]'h0).toNat (UInt8.toNat_lt _)
  rw [hb] at hbg
  have hl := size_list s
  have HC : Hid (∀ j (hj : j < s.data.toList.length) (hj' : j < s.size), s.data.toList[j]'hj = s[j]'hj') := fun j hj hj' => (get_list hj').2
  have HX : Hid ((s.data.toList.all fun b => inB b.toNat) = x) := hx
  generalize s.data.toList = l at *
  clear hx
  go_enter Tryz.func101, Tryz.ntmps101
  go_wp2_with fail
  refine hbg.mono ?_
  rintro e w2 ⟨rfl, rfl⟩
  go_wp2
  go_loop [3] (fun v => ∃ i : Nat, i ≤ s.size ∧ v = .int .i64 (i : Int) ∧ Hid ((l.take i).all (fun b => inB b.toNat) = true)) (fun v => s.size - (intOf v).toNat)
  case atStart => exact ⟨0, by omega, rfl, rfl⟩
  case round =>
    obtain ⟨i, hi, rfl, hall⟩ := hrel
    by_cases hlt : i < s.size
    · have hcell := HC.out i (by omega) hlt
      have hts := take_snoc (l := l) (i := i) (by omega)
      have hmem : (l[i]'(by omega)) ∈ l := List.getElem_mem _
      rw [hcell] at hts hmem
      have hbl := in_any w2 (s[i]'hlt).toNat (UInt8.toNat_lt _)
      cases hB : inB (s[i]'hlt).toNat <;> rw [hB] at hbl
      · have hfin : x = false := by
          rw [← HX.out, List.all_eq_false]
          exact ⟨_, hmem, by simp [hB]⟩
        clear HX hcell
        go_wp2_with fail
        refine hbl.mono ?_
        rintro e w3 ⟨rfl, rfl⟩
        go_wp2
        go_ret
        first | exact ⟨congrArg _ (v_bool hfin.symm), rfl⟩ | exact ⟨rfl, rfl⟩
      · clear HX hcell
        go_wp2_with fail
        refine hbl.mono ?_
        rintro e w3 ⟨rfl, rfl⟩
        go_wp2
        go_round
        case rel =>
          refine ⟨i + 1, by omega, by go_num, ?_⟩
          show (l.take (i + 1)).all (fun b => inB b.toNat) = true
          rw [hts, List.all_append, hall.out]
          simp [hB]
        case measure => simp [intOf]; omega
    · have hfin : x = true := by
        rw [← HX.out, ← hall.out, List.take_of_length_le (by omega)]
      clear HX
      go_wp2
      go_ret
      first | exact ⟨congrArg _ (v_bool hfin.symm), rfl⟩ | exact ⟨rfl, rfl⟩

theorem blankl_any (w : World) (s : ByteArray) (h : s.size < 1152921504606846976) :
    Calls Tryz.prog 91 #[.string s] w fun e w' => e = .returned (.bool (blankL s.data.toList)) ∧ Below w.heap.size w w' := blankl_walk w s h _ rfl
theorem name_any (w : World) (s : ByteArray) :
    Calls Tryz.prog 65 #[.string s] w fun e w' => e = .returned (.bool (nameL s.data.toList)) ∧ Below w.heap.size w w' := by
  have hl := size_list s
  by_cases h : 1 ≤ s.size ∧ s.size ≤ 32
  · exact name_walk w s (by omega) (by omega) _ rfl
  · have hn : nameL s.data.toList = false := by simp only [nameL, hl, h, decide_false, Bool.false_and]
    rw [hn]
    refine (name_out w s ?_).mono ?_
    · rcases Nat.lt_or_ge s.size 1 with h1 | h1
      · left
        rw [Lib.toList_data]
        have : s.data.toList = [] := List.length_eq_zero_iff.1 (by omega)
        rw [this]
        rfl
      · right; omega
    · rintro e w' ⟨rfl, rfl⟩
      exact ⟨rfl, Below.refl _ _⟩

theorem rname_any (w : World) (s : ByteArray) :
    Calls Tryz.prog 101 #[.string s] w fun e w' => e = .returned (.bool (nameL s.data.toList)) ∧ w' = w := by
  have hl := size_list s
  by_cases h : 1 ≤ s.size ∧ s.size ≤ 32
  · have h0 : 0 < s.size := by omega
    have ht : s.data.toList.take 1 = [s[0]'h0] := by
      have := drop_get h0
      rw [List.drop_zero] at this
      rw [this]
      rfl
    cases hb : beginB (s[0]'h0).toNat
    · have hn : nameL s.data.toList = false := by simp [nameL, ht, hb]
      rw [hn]
      exact rname_not w s h0 h.2 hb
    · have hn : nameL s.data.toList = s.data.toList.all fun b => inB b.toNat := by simp only [nameL, hl, ht, hb, h, and_self, decide_true, List.all_cons, List.all_nil, Bool.and_self, Bool.true_and]
      rw [hn]
      exact rname_walk w s h0 h.2 hb _ rfl
  · have hn : nameL s.data.toList = false := by simp only [nameL, hl, h, decide_false, Bool.false_and]
    rw [hn]
    exact rname_out w s (by omega)

end Go.Proofs.YtmifejkddgcbmaaGreat

/- Trees in plain, as data by levels, and how they lie in memory; what a call leaves as it was. -/
namespace Go.Proofs.YtmifejkddgcbmaaGreat
open Go.RowKit
set_option linter.unusedVariables false
set_option linter.unusedSimpArgs false

def IsCells (w : World) (b : Nat) (cs : Array Value) : Prop := ∃ T, w.heap[b]? = some (.cells cs T (0, 0))

theorem IsCells.lt {w : World} {b : Nat} {cs : Array Value} (h : IsCells w b cs) : b < w.heap.size := by
  obtain ⟨T, h⟩ := h
  exact (Array.getElem?_eq_some_iff.1 h).1
theorem IsCells.cell {w : World} {b : Nat} {cs : Array Value} (h : IsCells w b cs) (o : Nat) : w.cell? ⟨b, o, none⟩ = cs[o]? := by
  obtain ⟨T, h⟩ := h
  simp [World.cell?, h]
theorem IsCells.frozen {w : World} {b : Nat} {cs : Array Value} (h : IsCells w b cs) (o : Nat) : w.frozen? ⟨b, o, none⟩ = false := by
  obtain ⟨T, h⟩ := h
  simp [World.frozen?, h]
theorem IsCells.of_block {w w' : World} {b : Nat} {cs : Array Value} (h : IsCells w b cs) (hb : w'.heap[b]? = w.heap[b]?) : IsCells w' b cs := by
  obtain ⟨T, h⟩ := h
  exact ⟨T, hb.trans h⟩
theorem IsCells.alloc {w : World} {b : Nat} {cs : Array Value} (h : IsCells w b cs) (o : Obj) : IsCells (w.alloc o) b cs :=
  h.of_block (Below.heap_alloc _ _ _ h.lt)
theorem IsCells.other {w : World} {b : Nat} {cs : Array Value} (h : IsCells w b cs) {a : Addr} (hne : b ≠ a.block) (v : Value) : IsCells (w.setCell a v) b cs :=
  h.of_block (Below.heap_setCell _ _ _ _ hne)
theorem IsCells.set {w : World} {b : Nat} {cs : Array Value} (h : IsCells w b cs) (o : Nat) (v : Value) : IsCells (w.setCell ⟨b, o, none⟩ v) b (cs.setIfInBounds o v) := by
  obtain ⟨T, h⟩ := h
  refine ⟨T, ?_⟩
  simp [World.setCell, Array.getElem?_modify, h]
theorem isCells_new (w : World) (cs : Array Value) (T : TypeId) : IsCells (w.alloc (.cells cs T)) w.heap.size cs := ⟨T, heap_alloc_new w _⟩

/-- Blocks of which A does not hold are as they were. -/
structure Turn (A : Nat → Prop) (w w' : World) : Prop where
  os : w'.os = w.os
  tape : w'.tape = w.tape
  output : w'.output = w.output
  size : w.heap.size ≤ w'.heap.size
  block : ∀ k, k < w.heap.size → ¬ A k → w'.heap[k]? = w.heap[k]?

theorem Turn.refl (A : Nat → Prop) (w : World) : Turn A w w := ⟨rfl, rfl, rfl, Nat.le_refl _, fun _ _ _ => rfl⟩
theorem Turn.trans {A : Nat → Prop} {a b c : World} (h : Turn A a b) (k : Turn A b c) : Turn A a c :=
  ⟨k.os.trans h.os, k.tape.trans h.tape, k.output.trans h.output, Nat.le_trans h.size k.size, fun i hi ha => (k.block i (Nat.lt_of_lt_of_le hi h.size) ha).trans (h.block i hi ha)⟩
theorem Turn.mono {A B : Nat → Prop} {a b : World} (h : Turn A a b) (hAB : ∀ k, k < a.heap.size → A k → B k) : Turn B a b :=
  ⟨h.os, h.tape, h.output, h.size, fun i hi hb => h.block i hi (fun ha => hb (hAB i hi ha))⟩
theorem Turn.drew {A : Nat → Prop} {a w : World} (h : Turn A a w) : Turn A a w.drew := ⟨h.os, h.tape, h.output, h.size, h.block⟩
theorem Turn.drewN {A : Nat → Prop} {a w : World} (h : Turn A a w) (n : Nat) : Turn A a (w.drewN n) := ⟨h.os, h.tape, h.output, h.size, h.block⟩
theorem Turn.alloc {A : Nat → Prop} {a w : World} (h : Turn A a w) (o : Obj) : Turn A a (w.alloc o) :=
  h.trans ⟨rfl, rfl, rfl, by simp, fun k hk _ => Below.heap_alloc _ _ _ hk⟩
theorem Turn.setCell {A : Nat → Prop} {a w : World} (h : Turn A a w) {p : Addr} (hp : A p.block) (u : Value) : Turn A a (w.setCell p u) :=
  h.trans ⟨rfl, rfl, rfl, by simp [World.setCell], fun _ _ ha => Below.heap_setCell _ _ _ _ (fun e => ha (by rw [e]; exact hp))⟩
/-- A store into a block that was not there at the start. -/
theorem Turn.setNew {A : Nat → Prop} {a w : World} (h : Turn A a w) {p : Addr} (hp : a.heap.size ≤ p.block) (u : Value) : Turn A a (w.setCell p u) :=
  ⟨h.os, h.tape, h.output, Nat.le_trans h.size (by simp [World.setCell]), fun k hk ha => (Below.heap_setCell _ _ _ _ (by omega)).trans (h.block k hk ha)⟩
theorem Turn.below {A : Nat → Prop} {B : Nat} {w w' : World} (h : Turn A w w') (hB : B ≤ w.heap.size) (hA : ∀ k, A k → B ≤ k) : Below B w w' :=
  ⟨h.os, h.tape, h.output, h.size, fun k hk => h.block k (by omega) (fun ha => by have := hA k ha; omega)⟩
/-- What came behind left alone all that was there. -/
theorem Turn.then {A : Nat → Prop} {a b c : World} (h : Turn A a b) {B : Nat} (k : Below B b c) (hB : a.heap.size ≤ B) : Turn A a c :=
  ⟨k.os.trans h.os, k.tape.trans h.tape, k.output.trans h.output, Nat.le_trans h.size k.size, fun i hi ha => (k.block i (by omega)).trans (h.block i hi ha)⟩

/-- A node, over whatever its children are. -/
structure Nd (α : Type) where
  kind : Int
  name : ByteArray
  attrs : List (ByteArray × ByteArray)
  text : ByteArray
  kids : List α

/-- Trees of at most so many levels. -/
def T : Nat → Type
  | 0 => Empty
  | n + 1 => Nd (T n)

/-- A list of attributes lies in memory, in blocks from lo on, below hi. -/
def AttrsAt (w : World) (lo hi : Nat) (a : Option Addr) (l : List (ByteArray × ByteArray)) : Prop :=
  ∀ i p, l[i]? = some p → ∃ b o, a = some ⟨b, o, none⟩ ∧ lo ≤ b ∧ b < hi ∧ w.cell? ⟨b, o + i * 2, none⟩ = some (.string p.1) ∧ w.cell? ⟨b, o + i * 2 + 1, none⟩ = some (.string p.2)

/-- A tree's own word: the cells of a struct. -/
def tv (k : Int) (nm : ByteArray) (a : Option Addr) (al ac : Nat) (tx : ByteArray) (ka : Option Addr) (kl kc : Nat) : Array Value :=
  #[.int .i64 k, .string nm, .slice a al ac, .string tx, .slice ka kl kc]

def maxA : Nat := 4398046511104
def maxK : Nat := 1599289640401

/-- A tree lies in memory, in blocks from lo on, below hi. -/
def TreeAt (w : World) (lo hi : Nat) : (n : Nat) → Array Value → T n → Prop
  | 0, _, t => False
  | n + 1, v, t => ∃ (a : Option Addr) (ac : Nat) (ka : Option Addr) (kc : Nat), v = tv t.kind t.name a t.attrs.length ac t.text ka t.kids.length kc ∧
      t.attrs.length ≤ maxA ∧ t.kids.length ≤ maxK ∧ t.attrs.length ≤ ac ∧ t.kids.length ≤ kc ∧ AttrsAt w lo hi a t.attrs ∧
      ∀ i k, t.kids[i]? = some k → ∃ (b o : Nat) (u : Array Value), ka = some ⟨b, o, none⟩ ∧ lo ≤ b ∧ b < hi ∧ u.size = 5 ∧ (∀ j, j < 5 → w.cell? ⟨b, o + i * 5 + j, none⟩ = u[j]?) ∧ TreeAt w lo hi n u k

theorem AttrsAt.of_cells {w w' : World} {lo hi : Nat} {a : Option Addr} {l : List (ByteArray × ByteArray)} (h : AttrsAt w lo hi a l) (hc : ∀ b o, lo ≤ b → b < hi → w'.cell? ⟨b, o, none⟩ = w.cell? ⟨b, o, none⟩) : AttrsAt w' lo hi a l := by
  intro i p hp
  obtain ⟨b, o, h1, h2, h3, h4, h5⟩ := h i p hp
  exact ⟨b, o, h1, h2, h3, (hc _ _ h2 h3).trans h4, (hc _ _ h2 h3).trans h5⟩

theorem TreeAt.of_cells {w w' : World} {lo hi : Nat} (hc : ∀ b o, lo ≤ b → b < hi → w'.cell? ⟨b, o, none⟩ = w.cell? ⟨b, o, none⟩) : ∀ {n : Nat} {v : Array Value} {t : T n}, TreeAt w lo hi n v t → TreeAt w' lo hi n v t
  | 0, _, _, h => h.elim
  | n + 1, v, t, h => by
    obtain ⟨a, ac, ka, kc, h1, h2, h3, h4, h5, h6, h7⟩ := h
    refine ⟨a, ac, ka, kc, h1, h2, h3, h4, h5, h6.of_cells hc, fun i k hk => ?_⟩
    obtain ⟨b, o, u, g1, g2, g3, g4, g5, g6⟩ := h7 i k hk
    exact ⟨b, o, u, g1, g2, g3, g4, fun j hj => (hc _ _ g2 g3).trans (g5 j hj), TreeAt.of_cells hc g6⟩

theorem AttrsAt.mono {w : World} {lo hi lo' hi' : Nat} {a : Option Addr} {l : List (ByteArray × ByteArray)} (h : AttrsAt w lo hi a l) (h1 : lo' ≤ lo) (h2 : hi ≤ hi') : AttrsAt w lo' hi' a l := by
  intro i p hp
  obtain ⟨b, o, g1, g2, g3, g4, g5⟩ := h i p hp
  exact ⟨b, o, g1, by omega, by omega, g4, g5⟩

theorem TreeAt.mono {w : World} {lo hi lo' hi' : Nat} (h1 : lo' ≤ lo) (h2 : hi ≤ hi') : ∀ {n : Nat} {v : Array Value} {t : T n}, TreeAt w lo hi n v t → TreeAt w lo' hi' n v t
  | 0, _, _, h => h.elim
  | n + 1, v, t, h => by
    obtain ⟨a, ac, ka, kc, g1, g2, g3, g4, g5, g6, g7⟩ := h
    refine ⟨a, ac, ka, kc, g1, g2, g3, g4, g5, g6.mono h1 h2, fun i k hk => ?_⟩
    obtain ⟨b, o, u, e1, e2, e3, e4, e5, e6⟩ := g7 i k hk
    exact ⟨b, o, u, e1, by omega, by omega, e4, e5, TreeAt.mono h1 h2 e6⟩

theorem TreeAt.below {w w' : World} {lo hi B n : Nat} {v : Array Value} {t : T n} (h : TreeAt w lo hi n v t) (hb : Below B w w') (hB : hi ≤ B) : TreeAt w' lo hi n v t :=
  h.of_cells (fun b o _ hb' => hb.cell (p := ⟨b, o, none⟩) (show b < B by omega))
theorem TreeAt.turn {w w' : World} {lo hi n : Nat} {v : Array Value} {t : T n} {A : Nat → Prop} (h : TreeAt w lo hi n v t) (ht : Turn A w w') (hs : hi ≤ w.heap.size) (hA : ∀ k, lo ≤ k → k < hi → ¬ A k) : TreeAt w' lo hi n v t :=
  h.of_cells (fun b o hb1 hb2 => World.cell?_of_block (w := w) (a := ⟨b, o, none⟩) (ht.block b (by omega) (hA b hb1 hb2)))

/-- What is wrong with attributes, the name ahead known. -/
def leB (a b : ByteArray) : Bool := Op.bytesLess a.toList b.toList || a.toList == b.toList
def attrsGo : Option ByteArray → List (ByteArray × ByteArray) → Int
  | _, [] => 0
  | prev, p :: r => if nameL p.1.data.toList = false ∨ (∃ q, prev = some q ∧ leB p.1 q = true) then 6 else if (tans p.2.data.toList).2 = 0 then attrsGo (some p.1) r else (tans p.2.data.toList).2
def attrsE (l : List (ByteArray × ByteArray)) : Int := if 32 < l.length then 2 else attrsGo none l
/-- What is wrong with a node itself. -/
def ownE {α : Type} (t : Nd α) : Int :=
  if t.kind = 1 then (if nameL t.name.data.toList then attrsE t.attrs else 6) else if t.kind = 2 then (tans t.text.data.toList).2 else 1
def kidsT {α : Type} (t : Nd α) : List α := if t.kind = 1 then t.kids else []

/-- Node behind node: how many stand ahead, what is wrong. -/
def chkL {α : Type} (f : α → Int → Int × Int) : List α → Int → Int × Int
  | [], a => (a, 0)
  | k :: r, a => if (f k a).2 = 0 then chkL f r (f k a).1 else f k a
def chk : (n : Nat) → T n → Int → Int → Int × Int
  | 0, t, _, a => (a, 0)
  | n + 1, t, d, a => if 64 < d ∨ 4096 ≤ a then (a, 2) else if ownE t = 0 then chkL (fun k x => chk n k (d + 1) x) (kidsT t) (a + 1) else (a, ownE t)

end Go.Proofs.YtmifejkddgcbmaaGreat
