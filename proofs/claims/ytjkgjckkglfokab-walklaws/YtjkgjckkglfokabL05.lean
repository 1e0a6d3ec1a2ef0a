/- What Text answers, the program's and the document's. -/
import Derived.Test.YtjkgjckkglfokabL04
import Derived.Lib.OthersKept
namespace Go.Proofs.Ytjkgjckkglfokab.Gr
open Go.RowKit
set_option linter.unusedVariables false
set_option linter.unusedSimpArgs false

/-- What is wrong with a list of bytes, and where, however long it is. -/
def bans (l : List UInt8) : Int × Int := if (scan l).2 = [] then (0, 0) else (((bytes (scan l).1).length : Int), 7)
/-- What Text answers. -/
def tans (l : List UInt8) : Int × Int := if 16384 < l.length then (0, 2) else bans l

/-- From the beginning of a character on: the rest of the scan. -/
theorem scan_at {l : List UInt8} {a b : List Nat} (h : (scan l).1 = a ++ b) : l.drop (bytes a).length = bytes b ++ (scan l).2 := by
  have h1 := (scan_spec l).1
  rw [h, bytes_append, List.append_assoc] at h1
  have h2 : l.drop (bytes a).length = (bytes a ++ (bytes b ++ (scan l).2)).drop (bytes a).length := by rw [← h1]
  rw [h2]
  simp
theorem scan_le {l : List UInt8} {a b : List Nat} (h : (scan l).1 = a ++ b) : (bytes a).length + (bytes b).length + (scan l).2.length = l.length := by
  have h1 := (scan_spec l).1
  rw [h, bytes_append, List.append_assoc] at h1
  have h2 := congrArg List.length h1
  simp only [List.length_append] at h2
  omega

/-- Where a scan stands: either a character that can be begins, or none does, or the text ends. -/
theorem scan_step {l : List UInt8} {a b : List Nat} (h : (scan l).1 = a ++ b) (hp : (bytes a).length < l.length) :
    (∃ r b', b = r :: b' ∧ Ch r ∧ first (l.drop (bytes a).length) = some (r, (enc r).length) ∧ (scan l).1 = (a ++ [r]) ++ b' ∧ (bytes (a ++ [r])).length = (bytes a).length + (enc r).length ∧ (bytes a).length + (enc r).length ≤ l.length) ∨
    (b = [] ∧ first (l.drop (bytes a).length) = none ∧ (scan l).2 ≠ [] ∧ bans l = (((bytes a).length : Int), 7)) := by
  have h1 := scan_at h
  have h2 := scan_le h
  have h3 := scan_spec l
  cases b with
  | nil =>
    right
    rw [bytes_nil, List.nil_append] at h1
    have hne : (scan l).2 ≠ [] := by
      intro he
      rw [he, bytes_nil] at h2
      simp at h2
      omega
    refine ⟨rfl, by rw [h1]; exact h3.2.2, hne, ?_⟩
    rw [List.append_nil] at h
    rw [bans, if_neg hne, h]
  | cons r b' =>
    left
    have hr : Ch r := h3.2.1 r (by rw [h]; simp)
    rw [bytes_cons, List.append_assoc] at h1
    rw [bytes_cons, List.length_append] at h2
    refine ⟨r, b', rfl, hr, by rw [h1]; exact first_enc hr _, by rw [h]; simp, ?_, by omega⟩
    rw [bytes_append, List.length_append, bytes_cons, bytes_nil, List.append_nil]

theorem scan_end {l : List UInt8} {a b : List Nat} (h : (scan l).1 = a ++ b) (hp : ¬ (bytes a).length < l.length) : b = [] ∧ (scan l).2 = [] ∧ bans l = (0, 0) := by
  have h2 := scan_le h
  have hr : (scan l).2 = [] := List.length_eq_zero_iff.1 (by omega)
  refine ⟨?_, hr, by rw [bans, if_pos hr]⟩
  cases b with
  | nil => rfl
  | cons r b' =>
    rw [bytes_cons, List.length_append] at h2
    have := enc_pos r
    omega

theorem fans_of {l : List UInt8} {r n : Nat} (h : first l = some (r, n)) : fans l = ((r : Int), (n : Int), 0) := by
  cases l with
  | nil => simp [first] at h
  | cons b t => simp [fans, h]
theorem fans_no {l : List UInt8} (hl : 0 < l.length) (h : first l = none) : fans l = (0, 0, 7) := by
  cases l with
  | nil => simp at hl
  | cons b t => simp [fans, h]

set_option maxRecDepth 100000 in
set_option maxHeartbeats 1000000 in
theorem text_long (w : World) (s : ByteArray) (h : 16384 < s.size) :
    Calls Try.prog 79 #[.string s] w fun e w' => e = .returned (.tuple #[.int .i64 0, .int .i64 2]) ∧ w' = w := by
  go_enter Try.func79, Try.ntmps79
  go_wp2
  go_ret2
  exact ⟨rfl, rfl⟩

set_option maxRecDepth 100000 in
set_option maxHeartbeats 1000000 in
theorem text_walk (w : World) (s : ByteArray) (h : s.size ≤ 16384) (x y : Int) (hxy : bans s.data.toList = (x, y)) :
    Calls Try.prog 79 #[.string s] w fun e w' => e = .returned (.tuple #[.int .i64 x, .int .i64 y]) ∧ Below w.heap.size w w' := by
  have HX : Hid (bans s.data.toList = (x, y)) := hxy
  have hl := size_list s
  clear hxy
  go_enter Try.func79, Try.ntmps79
  go_wp2
  go_loopw [] (fun wr => ∃ (a b : List Nat), Hid ((scan s.data.toList).1 = a ++ b) ∧ wr.heap[w.heap.size]? = some (.stringIter s (bytes a).length) ∧ Hid (Below w.heap.size w wr)) (fun wr => s.size - wr.iterPos w.heap.size)
  case atStart =>
    refine ⟨[], (scan s.data.toList).1, rfl, ?_, ?_⟩
    · exact World.iter_heap w s 0
    · exact below_new w _
  case round =>
    obtain ⟨a, b, hab, hit, hbw⟩ := hrel
    have hszr : w.heap.size < wr.heap.size := (Array.getElem?_eq_some_iff.1 hit).1
    have hm0 : wr.iterPos w.heap.size = (bytes a).length := by simp only [World.iterPos, hit]
    by_cases hp : (bytes a).length < s.size
    · have hnx : ∀ ty, (Instr.next (.pointer (some ⟨w.heap.size, 0, none⟩)) true ty).run Try.prog wr = _ := fun ty => Lib.run_next_any_at wr w.heap.size s (bytes a).length ty hit hp
      have hit1 := Lib.iterAt_heap wr w.heap.size s (bytes a).length ((bytes a).length + (Utf8.decode s (bytes a).length).2) hit
      have hbw1 : Hid (Below w.heap.size w (wr.iterAt w.heap.size s ((bytes a).length + (Utf8.decode s (bytes a).length).2))) := Lib.below_iterAt hbw.out (Nat.le_refl _) s _
      have hsz1 := Lib.iterAt_size wr w.heap.size s ((bytes a).length + (Utf8.decode s (bytes a).length).2)
      have hfi := first_any (wr.iterAt w.heap.size s ((bytes a).length + (Utf8.decode s (bytes a).length).2)) (s.extract (bytes a).length s.size)
      have hex : (s.extract (bytes a).length s.size).data.toList = s.data.toList.drop (bytes a).length := by
        rw [Lib.extract_data, List.take_of_length_le]
        rw [List.length_drop, hl]
        exact Nat.le_refl _
      have hdl : (s.data.toList.drop (bytes a).length).length = s.size - (bytes a).length := by rw [List.length_drop, hl]
      rw [hex, hsz1] at hfi
      have hst := scan_step hab.out (by rw [hl]; exact hp)
      rcases hst with ⟨r, b', rfl, hr, hf, hsc, hlen, hle⟩ | ⟨rfl, hf, hne, hans⟩
      · have hdec : Utf8.decode s (bytes a).length = (r, (enc r).length) := by
          obtain ⟨_, _, t, ht⟩ := first_some hf
          exact decode_enc hr ht
        rw [fans_of hf] at hfi
        rw [hdec] at hnx hit1 hbw1 hfi
        rw [← hlen] at hnx hit1 hbw1 hfi
        have HSC : Hid ((scan s.data.toList).1 = (a ++ [r]) ++ b') := hsc
        have hpl : (bytes a).length < (bytes (a ++ [r])).length := by have := enc_pos r; omega
        generalize wr.iterAt w.heap.size s (bytes (a ++ [r])).length = W1 at *
        clear hab hf hsc hdec hex HX hbw hle hlen
        generalize hq : (bytes a).length = q at *
        clear hq
        go_wp2_with fail
        refine hfi.mono ?_
        rintro e W2 ⟨rfl, hb2⟩
        have hit2 : W2.heap[w.heap.size]? = some (.stringIter s (bytes (a ++ [r])).length) := by rw [hb2.block w.heap.size hszr]; exact hit1
        go_wp2
        go_roundw
        case rel => exact ⟨a ++ [r], b', HSC, hit2, hbw1.out.trans (hb2.mono (by omega))⟩
        case measure =>
          simp only [World.iterPos, hit2, hit]
          omega
      · rw [fans_no (by omega) hf] at hfi
        have hxy : x = ((bytes a).length : Int) ∧ y = 7 := by
          have := HX.out
          rw [hans] at this
          simp only [Prod.mk.injEq] at this
          omega
        obtain ⟨hx1, hy1⟩ := hxy
        clear hab hf hex hbw HX hans hne
        generalize wr.iterAt w.heap.size s ((bytes a).length + (Utf8.decode s (bytes a).length).2) = W1 at *
        generalize hq : (bytes a).length = q at *
        clear hq
        go_wp2_with fail
        refine hfi.mono ?_
        rintro e W2 ⟨rfl, hb2⟩
        go_wp2
        go_ret2
        exact ⟨congrArg _ (v_two hx1.symm hy1.symm), hbw1.out.trans (hb2.mono (by omega))⟩
    · have hnx : ∀ ty, (Instr.next (.pointer (some ⟨w.heap.size, 0, none⟩)) true ty).run Try.prog wr = _ := fun ty => Lib.run_next_end_at wr w.heap.size s (bytes a).length ty hit hp
      have he := (scan_end hab.out (by rw [hl]; exact hp)).2.2
      have hxy : x = 0 ∧ y = 0 := by
        have := HX.out
        rw [he] at this
        simp only [Prod.mk.injEq] at this
        omega
      obtain ⟨rfl, rfl⟩ := hxy
      clear hab HX he
      go_wp2
      go_ret2
      exact ⟨rfl, hbw.out⟩

theorem text_any (w : World) (s : ByteArray) :
    Calls Try.prog 79 #[.string s] w fun e w' => e = .returned (.tuple #[.int .i64 (tans s.data.toList).1, .int .i64 (tans s.data.toList).2]) ∧ Below w.heap.size w w' := by
  have hl := size_list s
  by_cases h : 16384 < s.size
  · rw [tans, if_pos (by omega)]
    refine (text_long w s h).mono ?_
    rintro e w' ⟨rfl, rfl⟩
    exact ⟨rfl, Below.refl _ _⟩
  · rw [tans, if_neg (by omega)]
    exact text_walk w s (by omega) _ _ rfl

end Go.Proofs.Ytjkgjckkglfokab.Gr

/- What Name and Blank answer, the program's and the document's. -/
namespace Go.Proofs.Ytjkgjckkglfokab.Gr
open Go.RowKit
set_option linter.unusedVariables false
set_option linter.unusedSimpArgs false

def nameL (l : List UInt8) : Bool := decide (1 ≤ l.length ∧ l.length ≤ 32) && (l.take 1).all (fun b => beginB b.toNat) && l.all fun b => inB b.toNat

theorem name_false_of {l : List UInt8} {i : Nat} (hi : i < l.length) (h : inB (l[i]).toNat = false ∨ (i = 0 ∧ beginB (l[i]).toNat = false)) : nameL l = false := by
  rcases h with h | ⟨h0, h⟩
  · have : (l.all fun b => inB b.toNat) = false := by
      rw [List.all_eq_false]
      exact ⟨l[i], List.getElem_mem _, by simp [h]⟩
    simp [nameL, this]
  · subst h0
    have : ((l.take 1).all fun b => beginB b.toNat) = false := by
      rw [List.all_eq_false]
      refine ⟨l[0], ?_, by simp [h]⟩
      rw [List.mem_take_iff_getElem]
      exact ⟨0, by omega, rfl⟩
    simp [nameL, this]

set_option maxRecDepth 100000 in
set_option maxHeartbeats 1000000 in
theorem name_out (w : World) (s : ByteArray) (h : s.toList.isEmpty = true ∨ 32 < s.size) :
    Calls Try.prog 77 #[.string s] w fun e w' => e = .returned (.bool false) ∧ w' = w := by
  cases h1 : s.toList.isEmpty
  · have h2 : 32 < s.size := by
      rcases h with h | h
      · rw [h1] at h; simp at h
      · exact h
    clear h
    go_enter Try.func77, Try.ntmps77
    go_wp2
    go_ret
    exact ⟨rfl, rfl⟩
  · clear h
    go_enter Try.func77, Try.ntmps77
    go_wp2
    go_ret
    exact ⟨rfl, rfl⟩

set_option maxRecDepth 100000 in
set_option maxHeartbeats 4000000 in
theorem name_walk (w : World) (s : ByteArray) (h0 : 0 < s.size) (h : s.size ≤ 32) (x : Bool) (hx : nameL s.data.toList = x) :
    Calls Try.prog 77 #[.string s] w fun e w' => e = .returned (.bool x) ∧ Below w.heap.size w w' := by
  obtain ⟨W, cap, hrun, hbel, hWs, hc⟩ := conv_bytes w s
  have hne := notEmpty h0
  have hl := size_list s
  have HC : Hid (∀ j (hj : j < s.data.toList.length), W.cell? ⟨w.heap.size, j, none⟩ = some (.int .u8 ((s.data.toList[j]).toNat : Int))) := bytes_cell hc
  have HX : Hid (nameL s.data.toList = x) := hx
  have HW : Hid (Below w.heap.size w W) := hbel
  generalize s.data.toList = l at *
  clear hc hx hbel
  go_enter Try.func77, Try.ntmps77
  go_wp2
  go_loop [15] (fun v => ∃ i : Nat, i ≤ s.size ∧ v = .int .i64 (i : Int) ∧ Hid (∀ j (hj : j < l.length), j < i → inB (l[j]).toNat = true ∧ (j = 0 → beginB (l[j]).toNat = true))) (fun v => s.size - (intOf v).toNat)
  case atStart => exact ⟨0, by omega, rfl, fun j hj h => by omega⟩
  case round =>
    obtain ⟨i, hi, rfl, hall⟩ := hrel
    by_cases hlt : i < s.size
    · have hcell := HC.out i (by omega)
      have HF : Hid ((inB (l[i]'(by omega)).toNat = false ∨ (i = 0 ∧ beginB (l[i]'(by omega)).toNat = false)) → x = false) := fun h => by rw [← HX.out]; exact name_false_of (by omega) h
      have HS : Hid (inB (l[i]'(by omega)).toNat = true ∧ (i = 0 → beginB (l[i]'(by omega)).toNat = true) → ∀ j (hj : j < l.length), j < i + 1 → inB (l[j]).toNat = true ∧ (j = 0 → beginB (l[j]).toNat = true)) := by
        intro h j hj hji
        rcases Nat.lt_or_ge j i with h1 | h1
        · exact hall.out j hj h1
        · have : j = i := by omega
          subst this
          exact h
      have hb256 : ((l[i]'(by omega)).toNat : Int) < 256 := by have := UInt8.toNat_lt (l[i]'(by omega)); omega
      generalize (l[i]'(by omega)).toNat = b at hcell HF HS hb256
      have h95 : ((b : Int) == 95) = decide (b = 95) := by rw [Bool.eq_iff_iff]; simp; omega
      have h45 : ((b : Int) == 45) = decide (b = 45) := by rw [Bool.eq_iff_iff]; simp; omega
      have h46 : ((b : Int) == 46) = decide (b = 46) := by rw [Bool.eq_iff_iff]; simp; omega
      have h00 : ((i : Int) == 0) = decide (i = 0) := by rw [Bool.eq_iff_iff]; simp
      clear HX HC hall
      go_wp2
      all_goals first
        | (go_ret
           refine ⟨congrArg _ (v_bool (HF.out ?_).symm), HW.out⟩
           simp only [inB, beginB, decide_eq_false_iff_not]
           omega)
        | (go_round
           case rel =>
             refine ⟨i + 1, by omega, by go_num, HS.out ?_⟩
             simp only [inB, beginB, decide_eq_true_eq]
             omega
           case measure => simp [intOf]; omega)
    · have hfin : x = true := by
        have ha := hall.out
        have h1 : (l.all fun b => inB b.toNat) = true := by
          rw [List.all_eq_true]
          intro b hb
          obtain ⟨j, hj, rfl⟩ := List.getElem_of_mem hb
          exact (ha j hj (by omega)).1
        have h2 : ((l.take 1).all fun b => beginB b.toNat) = true := by
          rw [List.all_eq_true]
          intro b hb
          rw [List.mem_take_iff_getElem] at hb
          obtain ⟨j, hj, rfl⟩ := hb
          exact (ha j (by omega) (by omega)).2 (by omega)
        rw [← HX.out, nameL, h1, h2]
        simp
        omega
      clear HX HC hall
      go_wp2
      go_ret
      first | exact ⟨congrArg _ (v_bool hfin.symm), HW.out⟩ | exact ⟨rfl, HW.out⟩

theorem name_any (w : World) (s : ByteArray) :
    Calls Try.prog 77 #[.string s] w fun e w' => e = .returned (.bool (nameL s.data.toList)) ∧ Below w.heap.size w w' := by
  have hl := size_list s
  by_cases h : 1 ≤ s.size ∧ s.size ≤ 32
  · exact name_walk w s (by omega) (by omega) _ rfl
  · have hn : nameL s.data.toList = false := by simp only [nameL, hl, h, decide_false, Bool.false_and]
    rw [hn]
    refine (name_out w s ?_).mono ?_
    · rcases Nat.lt_or_ge s.size 1 with h1 | h1
      · left
        rw [Lib.toList_data]
        have : s.data.toList = [] := List.length_eq_zero_iff.1 (by omega)
        rw [this]
        rfl
      · right; omega
    · rintro e w' ⟨rfl, rfl⟩
      exact ⟨rfl, Below.refl _ _⟩

end Go.Proofs.Ytjkgjckkglfokab.Gr

/- Trees in plain, as data by levels, and how they lie in memory; what a call leaves as it was. -/
namespace Go.Proofs.Ytjkgjckkglfokab.Gr
open Go.RowKit
set_option linter.unusedVariables false
set_option linter.unusedSimpArgs false

def IsCells (w : World) (b : Nat) (cs : Array Value) : Prop := ∃ T, w.heap[b]? = some (.cells cs T (0, 0))

theorem IsCells.lt {w : World} {b : Nat} {cs : Array Value} (h : IsCells w b cs) : b < w.heap.size := by
  obtain ⟨T, h⟩ := h
  exact (Array.getElem?_eq_some_iff.1 h).1
theorem IsCells.cell {w : World} {b : Nat} {cs : Array Value} (h : IsCells w b cs) (o : Nat) : w.cell? ⟨b, o, none⟩ = cs[o]? := by
  obtain ⟨T, h⟩ := h
  simp [World.cell?, h]
theorem IsCells.frozen {w : World} {b : Nat} {cs : Array Value} (h : IsCells w b cs) (o : Nat) : w.frozen? ⟨b, o, none⟩ = false := by
  obtain ⟨T, h⟩ := h
  simp [World.frozen?, h]
theorem IsCells.of_block {w w' : World} {b : Nat} {cs : Array Value} (h : IsCells w b cs) (hb : w'.heap[b]? = w.heap[b]?) : IsCells w' b cs := by
  obtain ⟨T, h⟩ := h
  exact ⟨T, hb.trans h⟩
theorem IsCells.alloc {w : World} {b : Nat} {cs : Array Value} (h : IsCells w b cs) (o : Obj) : IsCells (w.alloc o) b cs :=
  h.of_block (Below.heap_alloc _ _ _ h.lt)
theorem IsCells.other {w : World} {b : Nat} {cs : Array Value} (h : IsCells w b cs) {a : Addr} (hne : b ≠ a.block) (v : Value) : IsCells (w.setCell a v) b cs :=
  h.of_block (Below.heap_setCell _ _ _ _ hne)
theorem IsCells.set {w : World} {b : Nat} {cs : Array Value} (h : IsCells w b cs) (o : Nat) (v : Value) : IsCells (w.setCell ⟨b, o, none⟩ v) b (cs.setIfInBounds o v) := by
  obtain ⟨T, h⟩ := h
  refine ⟨T, ?_⟩
  simp [World.setCell, Array.getElem?_modify, h]
theorem isCells_new (w : World) (cs : Array Value) (T : TypeId) : IsCells (w.alloc (.cells cs T)) w.heap.size cs := ⟨T, heap_alloc_new w _⟩

/-- Blocks of which A does not hold are as they were. -/
structure Turn (A : Nat → Prop) (w w' : World) : Prop where
  os : w'.os = w.os
  tape : w'.tape = w.tape
  output : w'.output = w.output
  size : w.heap.size ≤ w'.heap.size
  block : ∀ k, k < w.heap.size → ¬ A k → w'.heap[k]? = w.heap[k]?

theorem Turn.refl (A : Nat → Prop) (w : World) : Turn A w w := ⟨rfl, rfl, rfl, Nat.le_refl _, fun _ _ _ => rfl⟩
theorem Turn.trans {A : Nat → Prop} {a b c : World} (h : Turn A a b) (k : Turn A b c) : Turn A a c :=
  ⟨k.os.trans h.os, k.tape.trans h.tape, k.output.trans h.output, Nat.le_trans h.size k.size, fun i hi ha => (k.block i (Nat.lt_of_lt_of_le hi h.size) ha).trans (h.block i hi ha)⟩
theorem Turn.mono {A B : Nat → Prop} {a b : World} (h : Turn A a b) (hAB : ∀ k, k < a.heap.size → A k → B k) : Turn B a b :=
  ⟨h.os, h.tape, h.output, h.size, fun i hi hb => h.block i hi (fun ha => hb (hAB i hi ha))⟩
theorem Turn.drew {A : Nat → Prop} {a w : World} (h : Turn A a w) : Turn A a w.drew := ⟨h.os, h.tape, h.output, h.size, h.block⟩
theorem Turn.alloc {A : Nat → Prop} {a w : World} (h : Turn A a w) (o : Obj) : Turn A a (w.alloc o) :=
  h.trans ⟨rfl, rfl, rfl, by simp, fun k hk _ => Below.heap_alloc _ _ _ hk⟩
theorem Turn.setCell {A : Nat → Prop} {a w : World} (h : Turn A a w) {p : Addr} (hp : A p.block) (u : Value) : Turn A a (w.setCell p u) :=
  h.trans ⟨rfl, rfl, rfl, by simp [World.setCell], fun _ _ ha => Below.heap_setCell _ _ _ _ (fun e => ha (by rw [e]; exact hp))⟩
/-- A store into a block that was not there at the start. -/
theorem Turn.setNew {A : Nat → Prop} {a w : World} (h : Turn A a w) {p : Addr} (hp : a.heap.size ≤ p.block) (u : Value) : Turn A a (w.setCell p u) :=
  ⟨h.os, h.tape, h.output, Nat.le_trans h.size (by simp [World.setCell]), fun k hk ha => (Below.heap_setCell _ _ _ _ (by omega)).trans (h.block k hk ha)⟩
theorem Turn.below {A : Nat → Prop} {B : Nat} {w w' : World} (h : Turn A w w') (hB : B ≤ w.heap.size) (hA : ∀ k, A k → B ≤ k) : Below B w w' :=
  ⟨h.os, h.tape, h.output, h.size, fun k hk => h.block k (by omega) (fun ha => by have := hA k ha; omega)⟩
/-- What came behind left alone all that was there. -/
theorem Turn.then {A : Nat → Prop} {a b c : World} (h : Turn A a b) {B : Nat} (k : Below B b c) (hB : a.heap.size ≤ B) : Turn A a c :=
  ⟨k.os.trans h.os, k.tape.trans h.tape, k.output.trans h.output, Nat.le_trans h.size k.size, fun i hi ha => (k.block i (by omega)).trans (h.block i hi ha)⟩

/-- A node, over whatever its children are. -/
structure Nd (α : Type) where
  kind : Int
  name : ByteArray
  attrs : List (ByteArray × ByteArray)
  text : ByteArray
  kids : List α

/-- Trees of at most so many levels. -/
def T : Nat → Type
  | 0 => Empty
  | n + 1 => Nd (T n)

/-- A list of attributes lies in memory, in blocks from lo on, below hi. -/
def AttrsAt (w : World) (lo hi : Nat) (a : Option Addr) (l : List (ByteArray × ByteArray)) : Prop :=
  ∀ i p, l[i]? = some p → ∃ b o, a = some ⟨b, o, none⟩ ∧ lo ≤ b ∧ b < hi ∧ w.cell? ⟨b, o + i * 2, none⟩ = some (.string p.1) ∧ w.cell? ⟨b, o + i * 2 + 1, none⟩ = some (.string p.2)

/-- A tree's own word: the cells of a struct. -/
def tv (k : Int) (nm : ByteArray) (a : Option Addr) (al ac : Nat) (tx : ByteArray) (ka : Option Addr) (kl kc : Nat) : Array Value :=
  #[.int .i64 k, .string nm, .slice a al ac, .string tx, .slice ka kl kc]

def maxA : Nat := 4398046511104
def maxK : Nat := 1599289640401

/-- A tree lies in memory, in blocks from lo on, below hi. -/
def TreeAt (w : World) (lo hi : Nat) : (n : Nat) → Array Value → T n → Prop
  | 0, _, t => False
  | n + 1, v, t => ∃ (a : Option Addr) (ac : Nat) (ka : Option Addr) (kc : Nat), v = tv t.kind t.name a t.attrs.length ac t.text ka t.kids.length kc ∧
      t.attrs.length ≤ maxA ∧ t.kids.length ≤ maxK ∧ t.attrs.length ≤ ac ∧ t.kids.length ≤ kc ∧ AttrsAt w lo hi a t.attrs ∧
      ∀ i k, t.kids[i]? = some k → ∃ (b o : Nat) (u : Array Value), ka = some ⟨b, o, none⟩ ∧ lo ≤ b ∧ b < hi ∧ u.size = 5 ∧ (∀ j, j < 5 → w.cell? ⟨b, o + i * 5 + j, none⟩ = u[j]?) ∧ TreeAt w lo hi n u k

theorem AttrsAt.of_cells {w w' : World} {lo hi : Nat} {a : Option Addr} {l : List (ByteArray × ByteArray)} (h : AttrsAt w lo hi a l) (hc : ∀ b o, lo ≤ b → b < hi → w'.cell? ⟨b, o, none⟩ = w.cell? ⟨b, o, none⟩) : AttrsAt w' lo hi a l := by
  intro i p hp
  obtain ⟨b, o, h1, h2, h3, h4, h5⟩ := h i p hp
  exact ⟨b, o, h1, h2, h3, (hc _ _ h2 h3).trans h4, (hc _ _ h2 h3).trans h5⟩

theorem TreeAt.of_cells {w w' : World} {lo hi : Nat} (hc : ∀ b o, lo ≤ b → b < hi → w'.cell? ⟨b, o, none⟩ = w.cell? ⟨b, o, none⟩) : ∀ {n : Nat} {v : Array Value} {t : T n}, TreeAt w lo hi n v t → TreeAt w' lo hi n v t
  | 0, _, _, h => h.elim
  | n + 1, v, t, h => by
    obtain ⟨a, ac, ka, kc, h1, h2, h3, h4, h5, h6, h7⟩ := h
    refine ⟨a, ac, ka, kc, h1, h2, h3, h4, h5, h6.of_cells hc, fun i k hk => ?_⟩
    obtain ⟨b, o, u, g1, g2, g3, g4, g5, g6⟩ := h7 i k hk
    exact ⟨b, o, u, g1, g2, g3, g4, fun j hj => (hc _ _ g2 g3).trans (g5 j hj), TreeAt.of_cells hc g6⟩

theorem AttrsAt.mono {w : World} {lo hi lo' hi' : Nat} {a : Option Addr} {l : List (ByteArray × ByteArray)} (h : AttrsAt w lo hi a l) (h1 : lo' ≤ lo) (h2 : hi ≤ hi') : AttrsAt w lo' hi' a l := by
  intro i p hp
  obtain ⟨b, o, g1, g2, g3, g4, g5⟩ := h i p hp
  exact ⟨b, o, g1, by omega, by omega, g4, g5⟩

theorem TreeAt.mono {w : World} {lo hi lo' hi' : Nat} (h1 : lo' ≤ lo) (h2 : hi ≤ hi') : ∀ {n : Nat} {v : Array Value} {t : T n}, TreeAt w lo hi n v t → TreeAt w lo' hi' n v t
  | 0, _, _, h => h.elim
  | n + 1, v, t, h => by
    obtain ⟨a, ac, ka, kc, g1, g2, g3, g4, g5, g6, g7⟩ := h
    refine ⟨a, ac, ka, kc, g1, g2, g3, g4, g5, g6.mono h1 h2, fun i k hk => ?_⟩
    obtain ⟨b, o, u, e1, e2, e3, e4, e5, e6⟩ := g7 i k hk
    exact ⟨b, o, u, e1, by omega, by omega, e4, e5, TreeAt.mono h1 h2 e6⟩

theorem TreeAt.below {w w' : World} {lo hi B n : Nat} {v : Array Value} {t : T n} (h : TreeAt w lo hi n v t) (hb : Below B w w') (hB : hi ≤ B) : TreeAt w' lo hi n v t :=
  h.of_cells (fun b o _ hb' => hb.cell (p := ⟨b, o, none⟩) (show b < B by omega))
theorem TreeAt.turn {w w' : World} {lo hi n : Nat} {v : Array Value} {t : T n} {A : Nat → Prop} (h : TreeAt w lo hi n v t) (ht : Turn A w w') (hs : hi ≤ w.heap.size) (hA : ∀ k, lo ≤ k → k < hi → ¬ A k) : TreeAt w' lo hi n v t :=
  h.of_cells (fun b o hb1 hb2 => World.cell?_of_block (w := w) (a := ⟨b, o, none⟩) (ht.block b (by omega) (hA b hb1 hb2)))

/-- What is wrong with attributes, the name ahead known. -/
def leB (a b : ByteArray) : Bool := Op.bytesLess a.toList b.toList || a.toList == b.toList
def attrsGo : Option ByteArray → List (ByteArray × ByteArray) → Int
  | _, [] => 0
  | prev, p :: r => if nameL p.1.data.toList = false ∨ (∃ q, prev = some q ∧ leB p.1 q = true) then 6 else if (tans p.2.data.toList).2 = 0 then attrsGo (some p.1) r else (tans p.2.data.toList).2
def attrsE (l : List (ByteArray × ByteArray)) : Int := if 32 < l.length then 2 else attrsGo none l
/-- What is wrong with a node itself. -/
def ownE {α : Type} (t : Nd α) : Int :=
  if t.kind = 1 then (if nameL t.name.data.toList then attrsE t.attrs else 6) else if t.kind = 2 then (tans t.text.data.toList).2 else 1
def kidsT {α : Type} (t : Nd α) : List α := if t.kind = 1 then t.kids else []

/-- Node behind node: how many stand ahead, what is wrong. -/
def chkL {α : Type} (f : α → Int → Int × Int) : List α → Int → Int × Int
  | [], a => (a, 0)
  | k :: r, a => if (f k a).2 = 0 then chkL f r (f k a).1 else f k a
def chk : (n : Nat) → T n → Int → Int → Int × Int
  | 0, t, _, a => (a, 0)
  | n + 1, t, d, a => if 64 < d ∨ 4096 ≤ a then (a, 2) else if ownE t = 0 then chkL (fun k x => chk n k (d + 1) x) (kidsT t) (a + 1) else (a, ownE t)

end Go.Proofs.Ytjkgjckkglfokab.Gr

/- A statement whose order is open, whose operations only read, and whose calls make memory but turn none: one walk serves every order. -/
namespace Go.Proofs.Ytjkgjckkglfokab.Gr
open Go.RowKit
set_option linter.unusedVariables false
set_option linter.unusedSimpArgs false

/-- A world in which all that was there is as it was. -/
structure Bel (W : World) where
  w : World
  h : Below W.heap.size W w

theorem Bel.cell {W : World} (u : Bel W) (b o : Nat) (h : b < W.heap.size) : u.w.cell? ⟨b, o, none⟩ = W.cell? ⟨b, o, none⟩ := u.h.cell (p := ⟨b, o, none⟩) h
theorem Bel.fz {W : World} (u : Bel W) (b o : Nat) (h : b < W.heap.size) : u.w.frozen? ⟨b, o, none⟩ = W.frozen? ⟨b, o, none⟩ := u.h.frozen (p := ⟨b, o, none⟩) h

theorem wp_region_bel {P : Program} {id : Nat} {Q : Exit → Act → World → Prop} {a : Act} {w : World} {l : List Oper} (hm : P.follows .mixedOrders = true) (hB : Region.lexB .any l.toArray = true)
    (h : Nonempty (Bel w) → wpQuiet P l.toArray (fun w' => ∃ u : Bel w, w' = u.w) (fun a' => ∀ w', (∃ u : Bel w, w' = u.w) → Q .normal a' w') l a) : (Code.region id l.toArray true).wp P Q a w :=
  wp_region_quiet (C := fun w' => ∃ u : Bel w, w' = u.w) hm hB ⟨⟨w.drew, (Below.refl _ _).drew⟩, rfl⟩ (by simpa using h ⟨⟨w, Below.refl _ _⟩⟩)

/-- A callee that makes memory. -/
theorem Calls.bel_of {P : Program} {f : FuncId} {args : Array Value} {W : World} {u : Bel W} {v : Value}
    (h : Calls P f args u.w fun e w' => e = .returned v ∧ Below u.w.heap.size u.w w') : Calls P f args u.w fun e w'' => e = .returned v ∧ ∃ u' : Bel W, w'' = u'.w :=
  h.mono fun _ w' ⟨he, hm⟩ => ⟨he, ⟨w', u.h.trans (hm.mono u.h.size)⟩, rfl⟩
theorem bcell {W w1 : World} {B : Nat} (hb : Below B W w1) : (∀ b o, b < B → w1.cell? ⟨b, o, none⟩ = W.cell? ⟨b, o, none⟩) ∧ (∀ b o, b < B → w1.frozen? ⟨b, o, none⟩ = W.frozen? ⟨b, o, none⟩) :=
  ⟨fun b o h => hb.cell (p := ⟨b, o, none⟩) h, fun b o h => hb.frozen (p := ⟨b, o, none⟩) h⟩

end Go.Proofs.Ytjkgjckkglfokab.Gr

/- What is wrong with attributes: the program's answer and the document's. -/
namespace Go.Proofs.Ytjkgjckkglfokab.Gr
open Go.RowKit
set_option linter.unusedVariables false
set_option linter.unusedSimpArgs false
attribute [local go_sem] Bel.cell Bel.fz

def prevAt (l : List (ByteArray × ByteArray)) (i : Nat) : Option ByteArray := if i = 0 then none else (l[i - 1]?).map (·.1)

theorem attrsGo_at {l : List (ByteArray × ByteArray)} {i : Nat} {p : ByteArray × ByteArray} (h : l[i]? = some p) :
    attrsGo (prevAt l i) (l.drop i) = if nameL p.1.data.toList = false ∨ (∃ q, prevAt l i = some q ∧ leB p.1 q = true) then 6 else if (tans p.2.data.toList).2 = 0 then attrsGo (prevAt l (i + 1)) (l.drop (i + 1)) else (tans p.2.data.toList).2 := by
  have hlt := (List.getElem?_eq_some_iff.1 h).1
  have e : l.drop i = p :: l.drop (i + 1) := by
    rw [List.drop_eq_getElem_cons hlt, (List.getElem?_eq_some_iff.1 h).2]
  have e2 : prevAt l (i + 1) = some p.1 := by simp [prevAt, h]
  rw [e, e2, attrsGo]

set_option maxRecDepth 100000 in
set_option maxHeartbeats 1000000 in
theorem attrs_long (w : World) (a : Option Addr) (n cap : Nat) (h : 32 < n) :
    Calls Try.prog 78 #[.slice a n cap] w fun e w' => e = .returned (.int .i64 2) ∧ w' = w := by
  go_enter Try.func78, Try.ntmps78
  go_wp2
  go_ret
  exact ⟨rfl, rfl⟩

theorem bel_end {w wr : World} {o : Obj} (h : Below w.heap.size w wr) (u : Bel (wr.alloc o)) (hs : w.heap.size ≤ wr.heap.size) : Below w.heap.size w u.w :=
  (h.alloc hs o).trans (u.h.mono (by simp; omega))
theorem bel_size {w wr : World} {o : Obj} (h : Below w.heap.size w wr) (u : Bel (wr.alloc o)) : w.heap.size ≤ u.w.heap.size := by
  have h1 := h.size
  have h2 := u.h.size
  simp at h2
  omega

set_option maxRecDepth 100000 in
set_option maxHeartbeats 1000000 in
theorem attrs_walk (w : World) (lo : Nat) (a : Option Addr) (l : List (ByteArray × ByteArray)) (cap : Nat) (h : AttrsAt w lo w.heap.size a l) (hn : l.length ≤ 32) (x : Int) (hx : attrsGo none l = x) :
    Calls Try.prog 78 #[.slice a l.length cap] w fun e w' => e = .returned (.int .i64 x) ∧ Below w.heap.size w w' := by
  have HX : Hid (attrsGo none l = x) := hx
  have HA : Hid (AttrsAt w lo w.heap.size a l) := h
  clear hx h
  go_enter Try.func78, Try.ntmps78
  go_wp2
  go_loopw [12] (fun v wr => ∃ i : Nat, i ≤ l.length ∧ v = .int .i64 (i : Int) ∧ Hid (attrsGo (prevAt l i) (l.drop i) = x) ∧ Hid (Below w.heap.size w wr)) (fun v _ => l.length - (intOf v).toNat)
  case atStart => exact ⟨0, by omega, rfl, HX, Below.refl _ _⟩
  case round =>
    obtain ⟨i, hi, rfl, hgo, hbw⟩ := hrel
    have hws := hbw.out.size
    by_cases hlt : i < l.length
    · obtain ⟨p, hp⟩ : ∃ p, l[i]? = some p := ⟨_, List.getElem?_eq_getElem hlt⟩
      obtain ⟨b, o, rfl, hlo, hbs, hc1, hc2⟩ := HA.out i p hp
      have hc1' : wr.cell? ⟨b, o + i * 2, none⟩ = some (.string p.1) := (hbw.out.cell (p := ⟨b, _, none⟩) hbs).trans hc1
      have hc2' : wr.cell? ⟨b, o + i * 2 + 1, none⟩ = some (.string p.2) := (hbw.out.cell (p := ⟨b, _, none⟩) hbs).trans hc2
      have hbr : b < wr.heap.size := by omega
      have hstep := attrsGo_at hp
      rw [hgo.out] at hstep
      have hnw := fun W => name_any W p.1
      have htw := fun W => text_any W p.2
      cases hnm : nameL p.1.data.toList
      · rw [if_pos (.inl hnm)] at hstep
        rw [hnm] at hnw
        have HSX : Hid (x = 6) := hstep
        clear hstep hnm HX HA hgo hc1 hc2 hp
        go_wp2
        refine wp_region_bel (by kernel_rfl) (by kernel_rfl) ?_
        intro hne
        repeat go_big_quiet_step ((go_at_call 77; exact Calls.bel_of (hnw _)))
        refine wpQuiet_nil ?_
        rintro _ ⟨u, rfl⟩
        go_wp2
        go_ret
        exact ⟨congrArg _ (v_int HSX.out.symm), bel_end hbw.out u hws⟩
      · rw [hnm] at hnw
        by_cases hi0 : i = 0
        · have hnp : ¬ (nameL p.1.data.toList = false ∨ ∃ q, prevAt l i = some q ∧ leB p.1 q = true) := by
            rintro (h | ⟨q, hq, _⟩)
            · rw [hnm] at h; cases h
            · simp [prevAt, hi0] at hq
          rw [if_neg hnp] at hstep
          have hd : decide (0 < i) = false := by simp; omega
          have HI : Hid (i = 0) := hi0
          clear hnp hi0 hnm HX HA hgo hc1 hc2 hp
          generalize (tans p.2.data.toList).1 = y1 at *
          generalize (tans p.2.data.toList).2 = y2 at *
          by_cases hy : y2 = 0
          · rw [if_pos hy] at hstep
            subst hy
            have HS : Hid (x = attrsGo (prevAt l (i + 1)) (l.drop (i + 1))) := hstep
            clear hstep
            go_wp2
            refine wp_region_bel (by kernel_rfl) (by kernel_rfl) ?_
            intro hne
            repeat go_big_quiet_step ((go_at_call 77; exact Calls.bel_of (hnw _)))
            refine wpQuiet_nil ?_
            rintro _ ⟨u, rfl⟩
            go_wp2_with fail
            refine (htw _).mono ?_
            rintro e w2 ⟨rfl, hb2⟩
            go_wp2
            go_roundw
            case rel => exact ⟨i + 1, by omega, by go_num, HS.out.symm, (bel_end hbw.out u hws).trans (hb2.mono (bel_size hbw.out u))⟩
            case measure => simp [intOf]; omega
          · rw [if_neg hy] at hstep
            have hbn : (y2 == 0) = false := beq_eq_false_iff_ne.2 hy
            have HS : Hid (x = y2) := hstep
            have HY : Hid (¬ y2 = 0) := hy
            clear hstep hy
            go_wp2
            refine wp_region_bel (by kernel_rfl) (by kernel_rfl) ?_
            intro hne
            repeat go_big_quiet_step ((go_at_call 77; exact Calls.bel_of (hnw _)))
            refine wpQuiet_nil ?_
            rintro _ ⟨u, rfl⟩
            go_wp2_with fail
            refine (htw _).mono ?_
            rintro e w2 ⟨rfl, hb2⟩
            go_wp2
            go_ret
            exact ⟨congrArg _ (v_int HS.out.symm), (bel_end hbw.out u hws).trans (hb2.mono (bel_size hbw.out u))⟩
        · obtain ⟨j, rfl⟩ : ∃ j, i = j + 1 := ⟨i - 1, by omega⟩
          obtain ⟨q, hq⟩ : ∃ q, l[j]? = some q := ⟨_, List.getElem?_eq_getElem (by omega)⟩
          obtain ⟨b', o', he, _, _, hq1, _⟩ := HA.out j q hq
          simp only [Option.some.injEq, Addr.mk.injEq, and_true] at he
          obtain ⟨rfl, rfl⟩ := he
          have hq1' : wr.cell? ⟨b, o + j * 2, none⟩ = some (.string q.1) := (hbw.out.cell (p := ⟨b, _, none⟩) hbs).trans hq1
          have hpv : prevAt l (j + 1) = some q.1 := by simp [prevAt, hq]
          have hi1 : ((j + 1 : Nat) : Int) - 1 = (j : Int) := by omega
          have hi2 : (j : Int) < ((l.length : Nat) : Int) := by omega
          have hd : decide ((0 : Int) < ((j + 1 : Nat) : Int)) = true := by simp
          cases hle : leB p.1 q.1
          · have hnp : ¬ (nameL p.1.data.toList = false ∨ ∃ q, prevAt l (j + 1) = some q ∧ leB p.1 q = true) := by
              rintro (h | ⟨q', hq', h⟩)
              · rw [hnm] at h; cases h
              · rw [hpv] at hq'; cases hq'; rw [hle] at h; cases h
            rw [if_neg hnp] at hstep
            have hle' : (Op.bytesLess p.1.toList q.1.toList || p.1.toList == q.1.toList) = false := hle
            generalize hz : (Op.bytesLess p.1.toList q.1.toList || p.1.toList == q.1.toList) = z at hle'
            subst hle'
            clear hnp hnm HX HA hgo hc1 hc2 hp hq hq1 hpv hi0 hle
            generalize (tans p.2.data.toList).1 = y1 at *
            generalize (tans p.2.data.toList).2 = y2 at *
            by_cases hy : y2 = 0
            · rw [if_pos hy] at hstep
              subst hy
              have HS : Hid (x = attrsGo (prevAt l (j + 1 + 1)) (l.drop (j + 1 + 1))) := hstep
              clear hstep
              go_wp2
              refine wp_region_bel (by kernel_rfl) (by kernel_rfl) ?_
              intro hne
              repeat go_big_quiet_step ((go_at_call 77; exact Calls.bel_of (hnw _)))
              refine wpQuiet_nil ?_
              rintro _ ⟨u, rfl⟩
              go_wp2_with fail
              refine (htw _).mono ?_
              rintro e w2 ⟨rfl, hb2⟩
              go_wp2
              go_roundw
              case rel => exact ⟨j + 1 + 1, by omega, by go_num, HS.out.symm, (bel_end hbw.out u hws).trans (hb2.mono (bel_size hbw.out u))⟩
              case measure => simp [intOf]; omega
            · rw [if_neg hy] at hstep
              have hbn : (y2 == 0) = false := beq_eq_false_iff_ne.2 hy
              have HS : Hid (x = y2) := hstep
              have HY : Hid (¬ y2 = 0) := hy
              clear hstep hy
              go_wp2
              refine wp_region_bel (by kernel_rfl) (by kernel_rfl) ?_
              intro hne
              repeat go_big_quiet_step ((go_at_call 77; exact Calls.bel_of (hnw _)))
              refine wpQuiet_nil ?_
              rintro _ ⟨u, rfl⟩
              go_wp2_with fail
              refine (htw _).mono ?_
              rintro e w2 ⟨rfl, hb2⟩
              go_wp2
              go_ret
              exact ⟨congrArg _ (v_int HS.out.symm), (bel_end hbw.out u hws).trans (hb2.mono (bel_size hbw.out u))⟩
          · rw [if_pos (.inr ⟨q.1, hpv, hle⟩)] at hstep
            have hle' : (Op.bytesLess p.1.toList q.1.toList || p.1.toList == q.1.toList) = true := hle
            have HSX : Hid (x = 6) := hstep
            clear hstep hnm HX HA hgo hc1 hc2 hp hq hq1 hpv hi0 hle
            go_wp2
            refine wp_region_bel (by kernel_rfl) (by kernel_rfl) ?_
            intro hne
            repeat go_big_quiet_step ((go_at_call 77; exact Calls.bel_of (hnw _)))
            refine wpQuiet_nil ?_
            rintro _ ⟨u, rfl⟩
            go_wp2
            go_ret
            exact ⟨congrArg _ (v_int HSX.out.symm), bel_end hbw.out u hws⟩
    · have hfin : x = 0 := by
        rw [← hgo.out, List.drop_eq_nil_of_le (by omega)]
        cases prevAt l i <;> rfl
      clear hgo HX HA
      go_wp2
      go_ret
      exact ⟨congrArg _ (v_int hfin.symm), hbw.out⟩

theorem attrs_any (w : World) (lo : Nat) (a : Option Addr) (l : List (ByteArray × ByteArray)) (cap : Nat) (h : AttrsAt w lo w.heap.size a l) :
    Calls Try.prog 78 #[.slice a l.length cap] w fun e w' => e = .returned (.int .i64 (attrsE l)) ∧ Below w.heap.size w w' := by
  by_cases hl : 32 < l.length
  · rw [attrsE, if_pos hl]
    refine (attrs_long w a _ cap hl).mono ?_
    rintro e w' ⟨rfl, rfl⟩
    exact ⟨rfl, Below.refl _ _⟩
  · rw [attrsE, if_neg hl]
    exact attrs_walk w lo a l cap h (by omega) _ rfl

end Go.Proofs.Ytjkgjckkglfokab.Gr

/- What is wrong with a node itself, and its children: the program's answers and the document's. -/
namespace Go.Proofs.Ytjkgjckkglfokab.Gr
open Go.RowKit
set_option linter.unusedVariables false
set_option linter.unusedSimpArgs false

theorem AttrsAt.after {w w' : World} {lo : Nat} {a : Option Addr} {l : List (ByteArray × ByteArray)} (h : AttrsAt w lo w.heap.size a l) (hb : Below w.heap.size w w') : AttrsAt w' lo w'.heap.size a l :=
  (h.of_cells (fun b o _ hb' => hb.cell (p := ⟨b, o, none⟩) hb')).mono (Nat.le_refl _) hb.size

theorem below_new' (w : World) (o : Obj) : Below w.heap.size w (w.alloc o) := (Below.refl _ _).alloc (Nat.le_refl _) o

set_option maxRecDepth 100000 in
set_option maxHeartbeats 1000000 in
theorem node_any {α : Type} (w : World) (lo : Nat) (t : Nd α) (a : Option Addr) (ac : Nat) (ka : Option Addr) (kl kc : Nat) (h : AttrsAt w lo w.heap.size a t.attrs) :
    Calls Try.prog 70 #[.agg #[.int .i64 t.kind, .string t.name, .slice a t.attrs.length ac, .string t.text, .slice ka kl kc]] w fun e w' => e = .returned (.int .i64 (ownE t)) ∧ Below w.heap.size w w' := by
  have hbn := below_new' w (.cells #[.int .i64 t.kind, .string t.name, .slice a t.attrs.length ac, .string t.text, .slice ka kl kc] 48)
  have hnw := fun W => name_any W t.name
  have htw := fun W => text_any W t.text
  have haw : ∀ W, Below (w.alloc (.cells #[.int .i64 t.kind, .string t.name, .slice a t.attrs.length ac, .string t.text, .slice ka kl kc] 48)).heap.size (w.alloc (.cells #[.int .i64 t.kind, .string t.name, .slice a t.attrs.length ac, .string t.text, .slice ka kl kc] 48)) W → Calls Try.prog 78 #[.slice a t.attrs.length ac] W fun e w' => e = .returned (.int .i64 (attrsE t.attrs)) ∧ Below W.heap.size W w' :=
    fun W hb => attrs_any W lo a t.attrs ac ((h.after hbn).after hb)
  have HBN : Hid (Below w.heap.size w (w.alloc (.cells #[.int .i64 t.kind, .string t.name, .slice a t.attrs.length ac, .string t.text, .slice ka kl kc] 48))) := hbn
  have HAW : Hid (∀ W, Below (w.alloc (.cells #[.int .i64 t.kind, .string t.name, .slice a t.attrs.length ac, .string t.text, .slice ka kl kc] 48)).heap.size (w.alloc (.cells #[.int .i64 t.kind, .string t.name, .slice a t.attrs.length ac, .string t.text, .slice ka kl kc] 48)) W → Calls Try.prog 78 #[.slice a t.attrs.length ac] W fun e w' => e = .returned (.int .i64 (attrsE t.attrs)) ∧ Below W.heap.size W w') := haw
  clear h hbn haw
  by_cases h1 : t.kind = 1
  · have hb1 : (t.kind == 1) = true := beq_iff_eq.2 h1
    have hE : ownE t = if nameL t.name.data.toList then attrsE t.attrs else 6 := by rw [ownE, if_pos h1]
    rw [hE]
    have H1 : Hid (t.kind = 1) := h1
    clear h1 hE htw
    cases hnm : nameL t.name.data.toList
    · rw [hnm] at hnw
      clear hnm
      go_enter Try.func70, Try.ntmps70
      go_wp2_with fail
      refine (hnw _).mono ?_
      rintro e w1 ⟨rfl, hb1⟩
      go_wp2
      go_ret
      exact ⟨rfl, HBN.out.trans (hb1.mono (by simp))⟩
    · rw [hnm] at hnw
      clear hnm
      go_enter Try.func70, Try.ntmps70
      go_wp2_with fail
      refine (hnw _).mono ?_
      rintro e w1 ⟨rfl, hb1⟩
      obtain ⟨hc, hf⟩ := bcell hb1
      have HB1 : Hid (Below (w.alloc (.cells #[.int .i64 t.kind, .string t.name, .slice a t.attrs.length ac, .string t.text, .slice ka kl kc] 48)).heap.size (w.alloc (.cells #[.int .i64 t.kind, .string t.name, .slice a t.attrs.length ac, .string t.text, .slice ka kl kc] 48)) w1) := hb1
      have hs1 := hb1.size
      simp at hs1
      clear hb1
      go_wp2_with fail
      refine (HAW.out _ HB1.out).mono ?_
      rintro e w2 ⟨rfl, hb2⟩
      go_wp2
      go_ret
      exact ⟨rfl, (HBN.out.trans (HB1.out.mono (by simp))).trans (hb2.mono (by omega))⟩
  · by_cases h2 : t.kind = 2
    · have hb1 : (t.kind == 1) = false := beq_eq_false_iff_ne.2 h1
      have hb2 : (t.kind == 2) = true := beq_iff_eq.2 h2
      have hE : ownE t = (tans t.text.data.toList).2 := by rw [ownE, if_neg h1, if_pos h2]
      rw [hE]
      have H1 : Hid (t.kind = 2) := h2
      clear h1 h2 hE hnw
      go_enter Try.func70, Try.ntmps70
      go_wp2_with fail
      refine (htw _).mono ?_
      rintro e w1 ⟨rfl, hb1⟩
      go_wp2
      go_ret
      exact ⟨rfl, HBN.out.trans (hb1.mono (by simp))⟩
    · have hb1 : (t.kind == 1) = false := beq_eq_false_iff_ne.2 h1
      have hb2 : (t.kind == 2) = false := beq_eq_false_iff_ne.2 h2
      have hE : ownE t = 1 := by rw [ownE, if_neg h1, if_neg h2]
      rw [hE]
      have H1 : Hid (¬ t.kind = 1) := h1
      have H2 : Hid (¬ t.kind = 2) := h2
      clear h1 h2 hE hnw htw
      go_enter Try.func70, Try.ntmps70
      go_wp2
      go_ret
      exact ⟨rfl, HBN.out⟩

/-- The children as the list that is gone through: a nil slice, or what stands in the field. -/
theorem kidsOf_any (w : World) (k : Int) (nm : ByteArray) (a : Option Addr) (al ac : Nat) (tx : ByteArray) (ka : Option Addr) (kl kc : Nat) :
    Calls Try.prog 51 #[.agg #[.int .i64 k, .string nm, .slice a al ac, .string tx, .slice ka kl kc]] w fun e w' => e = .returned (if k = 2 then .slice none 0 0 else .slice ka kl kc) ∧ Below w.heap.size w w' := by
  by_cases h : k = 2
  · have hb : (k == 2) = true := beq_iff_eq.2 h
    rw [if_pos h]
    clear h
    go_enter Try.func51, Try.ntmps51
    go_wp2
    go_ret
    exact ⟨rfl, below_new' w _⟩
  · have hb : (k == 2) = false := beq_eq_false_iff_ne.2 h
    rw [if_neg h]
    clear h
    go_enter Try.func51, Try.ntmps51
    go_wp2
    go_ret
    exact ⟨rfl, below_new' w _⟩

end Go.Proofs.Ytjkgjckkglfokab.Gr

/- What is wrong with a tree: the program's answer. -/
namespace Go.Proofs.Ytjkgjckkglfokab.Gr
open Go.RowKit
set_option linter.unusedVariables false
set_option linter.unusedSimpArgs false

/-- A list of trees lies in memory. -/
def KidsAt (w : World) (lo hi n : Nat) (ka : Option Addr) (L : List (T n)) : Prop :=
  ∀ i k, L[i]? = some k → ∃ (b o : Nat) (u : Array Value), ka = some ⟨b, o, none⟩ ∧ lo ≤ b ∧ b < hi ∧ u.size = 5 ∧ (∀ j, j < 5 → w.cell? ⟨b, o + i * 5 + j, none⟩ = u[j]?) ∧ TreeAt w lo hi n u k

theorem TreeAt.form {w : World} {lo hi : Nat} : ∀ {n : Nat} {v : Array Value} {t : T n}, TreeAt w lo hi n v t → ∃ k nm a al ac tx ka kl kc, v = #[.int .i64 k, .string nm, .slice a al ac, .string tx, .slice ka kl kc]
  | 0, _, _, h => h.elim
  | n + 1, v, t, h => by
    obtain ⟨a, ac, ka, kc, h1, _⟩ := h
    exact ⟨_, _, _, _, _, _, _, _, _, h1⟩

theorem KidsAt.of_cells {w w' : World} {lo hi n : Nat} {ka : Option Addr} {L : List (T n)} (h : KidsAt w lo hi n ka L) (hc : ∀ b o, lo ≤ b → b < hi → w'.cell? ⟨b, o, none⟩ = w.cell? ⟨b, o, none⟩) : KidsAt w' lo hi n ka L := by
  intro i k hk
  obtain ⟨b, o, u, h1, h2, h3, h4, h5, h6⟩ := h i k hk
  exact ⟨b, o, u, h1, h2, h3, h4, fun j hj => (hc _ _ h2 h3).trans (h5 j hj), h6.of_cells hc⟩
theorem KidsAt.turn {w w' : World} {lo hi n : Nat} {ka : Option Addr} {L : List (T n)} {A : Nat → Prop} (h : KidsAt w lo hi n ka L) (ht : Turn A w w') (hs : hi ≤ w.heap.size) (hA : ∀ k, lo ≤ k → k < hi → ¬ A k) : KidsAt w' lo hi n ka L :=
  h.of_cells (fun b o hb1 hb2 => World.cell?_of_block (w := w) (a := ⟨b, o, none⟩) (ht.block b (by omega) (hA b hb1 hb2)))

/-- A child's cells, as the walk reads them. -/
theorem KidsAt.get {w : World} {lo hi n : Nat} {ka : Option Addr} {L : List (T n)} (h : KidsAt w lo hi n ka L) {i : Nat} {k : T n} (hk : L[i]? = some k) :
    ∃ b o kk nm a al ac tx ka' kl kc, ka = some ⟨b, o, none⟩ ∧ lo ≤ b ∧ b < hi ∧ w.cell? ⟨b, o + i * 5, none⟩ = some (.int .i64 kk) ∧ w.cell? ⟨b, o + i * 5 + 1, none⟩ = some (.string nm) ∧ w.cell? ⟨b, o + i * 5 + 2, none⟩ = some (.slice a al ac) ∧
      w.cell? ⟨b, o + i * 5 + 3, none⟩ = some (.string tx) ∧ w.cell? ⟨b, o + i * 5 + 4, none⟩ = some (.slice ka' kl kc) ∧ TreeAt w lo hi n #[.int .i64 kk, .string nm, .slice a al ac, .string tx, .slice ka' kl kc] k := by
  obtain ⟨b, o, u, h1, h2, h3, h4, h5, h6⟩ := h i k hk
  obtain ⟨kk, nm, a, al, ac, tx, ka', kl, kc, rfl⟩ := h6.form
  exact ⟨b, o, kk, nm, a, al, ac, tx, ka', kl, kc, h1, h2, h3, h5 0 (by omega), h5 1 (by omega), h5 2 (by omega), h5 3 (by omega), h5 4 (by omega), h6⟩

theorem chkL_at {α : Type} {f : α → Int → Int × Int} {L : List α} {i : Nat} {k : α} {a : Int} (h : L[i]? = some k) : chkL f (L.drop i) a = if (f k a).2 = 0 then chkL f (L.drop (i + 1)) (f k a).1 else f k a := by
  have hlt := (List.getElem?_eq_some_iff.1 h).1
  have e : L.drop i = k :: L.drop (i + 1) := by
    rw [List.drop_eq_getElem_cons hlt, (List.getElem?_eq_some_iff.1 h).2]
  rw [e, chkL]

theorem chkL_ge {α : Type} {f : α → Int → Int × Int} (hf : ∀ k a, a ≤ (f k a).1) : ∀ (L : List α) (a : Int), a ≤ (chkL f L a).1
  | [], a => by simp [chkL]
  | k :: r, a => by
    have h1 := hf k a
    have h2 := chkL_ge hf r (f k a).1
    rw [chkL]
    split <;> omega
theorem chk_ge : ∀ (n : Nat) (t : T n) (d a : Int), a ≤ (chk n t d a).1
  | 0, t, _, a => by simp [chk]
  | n + 1, t, d, a => by
    rw [chk]
    split
    · simp
    · split
      · have := chkL_ge (f := fun k x => chk n k (d + 1) x) (fun k a => chk_ge n k (d + 1) a) (kidsT t) (a + 1)
        omega
      · simp
theorem chk_le : ∀ (n : Nat) (t : T n) (d a : Int), a ≤ 4096 → (chk n t d a).1 ≤ 4096
  | 0, t, _, a, h => by simpa [chk] using h
  | n + 1, t, d, a, h => by
    rw [chk]
    split
    · exact h
    · rename_i h1
      split
      · have : ∀ (L : List (T n)) (a : Int), a ≤ 4096 → (chkL (fun k x => chk n k (d + 1) x) L a).1 ≤ 4096 := by
          intro L
          induction L with
          | nil => intro a h; exact h
          | cons k r ih =>
            intro a h
            rw [chkL]
            split
            · exact ih _ (chk_le n k (d + 1) a h)
            · exact chk_le n k (d + 1) a h
        exact this _ _ (by omega)
      · exact h

/-- The children that play a part, with the slice that is gone through. -/
theorem TreeAt.kids {w : World} {lo hi n : Nat} {t : T (n + 1)} {a : Option Addr} {al ac : Nat} {ka : Option Addr} {kl kc : Nat} (h : TreeAt w lo hi (n + 1) #[.int .i64 t.kind, .string t.name, .slice a al ac, .string t.text, .slice ka kl kc] t) (ho : ownE t = 0) :
    ∃ ka' kc', (if t.kind = 2 then Value.slice none 0 0 else .slice ka kl kc) = .slice ka' (kidsT t).length kc' ∧ (if t.kind = 1 then Value.slice ka kl kc else .slice none 0 0) = .slice ka' (kidsT t).length kc' ∧ KidsAt w lo hi n ka' (kidsT t) ∧ (kidsT t).length ≤ maxK := by
  obtain ⟨a', ac', ka', kc', h1, h2, h3, h4, h5, h6, h7⟩ := h
  simp only [tv, Array.mk.injEq, List.cons.injEq, Value.slice.injEq, and_true, true_and] at h1
  obtain ⟨_, rfl, rfl, rfl⟩ := h1
  by_cases k1 : t.kind = 1
  · have k2 : ¬ t.kind = 2 := by omega
    have e : kidsT t = t.kids := if_pos k1
    rw [e, if_neg k2, if_pos k1]
    exact ⟨_, _, rfl, rfl, h7, h3⟩
  · have k2 : t.kind = 2 := by
      unfold ownE at ho
      rw [if_neg k1] at ho
      by_cases k2 : t.kind = 2
      · exact k2
      · rw [if_neg k2] at ho; omega
    have e : kidsT t = [] := if_neg k1
    rw [e, if_pos k2, if_neg k1]
    exact ⟨none, 0, rfl, rfl, fun i k hk => by simp at hk, Nat.zero_le _⟩

theorem turn_start {w : World} {pb : Nat} {ah : Value} (h : IsCells w pb #[ah]) (o : Obj) : Turn (fun b => b = pb) w (w.alloc o) ∧ IsCells (w.alloc o) pb #[ah] :=
  ⟨(Turn.refl _ _).alloc o, h.alloc o⟩

/-- What a call of check leaves. -/
def ChkP (w : World) (n : Nat) (t : T n) (pb : Nat) (d ah : Int) (e : Ending) (w' : World) : Prop :=
  e = .returned (.int .i64 (chk n t d ah).2) ∧ Turn (fun b => b = pb) w w' ∧ ∃ x : Int, IsCells w' pb #[.int .i64 x] ∧ ((chk n t d ah).2 = 0 → x = (chk n t d ah).1)

def ChkAll (n : Nat) : Prop := ∀ (w : World) (v : Array Value) (t : T n) (lo hi pb : Nat) (d ah : Int), TreeAt w lo hi n v t → hi ≤ pb → IsCells w pb #[.int .i64 ah] → 0 ≤ ah → ah ≤ 4096 → 0 ≤ d → d ≤ 65 →
    Calls Try.prog 50 #[.agg v, .int .i64 d, .pointer (some ⟨pb, 0, none⟩)] w (ChkP w n t pb d ah)

theorem turn_put {w : World} {pb : Nat} (v : Value) (o : Obj) : Turn (fun b => b = pb) w ((w.setCell ⟨pb, 0, none⟩ v).alloc o) :=
  (Turn.setCell (A := fun b => b = pb) (Turn.refl _ w) (p := ⟨pb, 0, none⟩) rfl v).alloc o

set_option maxRecDepth 100000 in
set_option maxHeartbeats 1000000 in
theorem check_any : ∀ (n : Nat), ChkAll n
  | 0 => fun _ _ _ _ _ _ _ _ h => h.elim
  | n + 1 => by
    intro w v t lo hi pb d ah h hhi hpb h0 h1 hd0 hd1
    have ih := check_any n
    have hpl := hpb.lt
    have hcell : w.cell? ⟨pb, 0, none⟩ = some (.int .i64 ah) := by rw [hpb.cell]; rfl
    have hfz : w.frozen? ⟨pb, 0, none⟩ = false := hpb.frozen 0
    obtain ⟨a, ac, ka, kc, rfl, hal, hkl, hac, hkc, hat, hkt⟩ := id h
    unfold tv at h ⊢
    by_cases hdd : 64 < d
    · have hR : chk (n + 1) t d ah = (ah, 2) := by rw [chk, if_pos (.inl hdd)]
      have HR : Hid (chk (n + 1) t d ah = (ah, 2)) := hR
      have HPB : Hid (IsCells w pb #[.int .i64 ah]) := hpb
      clear hR hal hkl hac hkc hat hkt h hpb ih
      go_enter Try.func50, Try.ntmps50
      go_wp2
      go_ret
      exact ⟨by rw [HR.out]; rfl, (turn_start HPB.out _).1, ah, (turn_start HPB.out _).2, fun h => by rw [HR.out] at h; cases h⟩
    · by_cases haa : 4096 ≤ ah
      · have hR : chk (n + 1) t d ah = (ah, 2) := by rw [chk, if_pos (.inr haa)]
        have HR : Hid (chk (n + 1) t d ah = (ah, 2)) := hR
        have HPB : Hid (IsCells w pb #[.int .i64 ah]) := hpb
        clear hR hal hkl hac hkc hat hkt h hpb ih
        have hd : decide (64 < d) = false := by simpa using hdd
        go_enter Try.func50, Try.ntmps50
        go_wp2
        go_ret
        exact ⟨by rw [HR.out]; rfl, (turn_start HPB.out _).1, ah, (turn_start HPB.out _).2, fun h => by rw [HR.out] at h; cases h⟩
      · have hR : chk (n + 1) t d ah = if ownE t = 0 then chkL (fun k x => chk n k (d + 1) x) (kidsT t) (ah + 1) else (ah, ownE t) := by
          rw [chk, if_neg (by omega)]
        have hd : decide (64 < d) = false := by simpa using hdd
        have ha : decide (4096 ≤ ah) = false := by simpa using haa
        have hsz : hi ≤ w.heap.size := by omega
        have HT0 : Hid (Turn (fun b => b = pb) w ((w.setCell ⟨pb, 0, none⟩ (.int .i64 (ah + 1))).alloc (.cells #[.int .i64 t.kind, .string t.name, .slice a t.attrs.length ac, .string t.text, .slice ka t.kids.length kc] 48))) :=
          turn_put _ _
        have HI0 : Hid (IsCells ((w.setCell ⟨pb, 0, none⟩ (.int .i64 (ah + 1))).alloc (.cells #[.int .i64 t.kind, .string t.name, .slice a t.attrs.length ac, .string t.text, .slice ka t.kids.length kc] 48)) pb #[.int .i64 (ah + 1)]) :=
          (hpb.set 0 _).alloc _
        have HAT : Hid (AttrsAt w lo hi a t.attrs) := hat
        have HTR : Hid (TreeAt w lo hi (n + 1) #[.int .i64 t.kind, .string t.name, .slice a t.attrs.length ac, .string t.text, .slice ka t.kids.length kc] t) := h
        have HR : Hid (chk (n + 1) t d ah = if ownE t = 0 then chkL (fun k x => chk n k (d + 1) x) (kidsT t) (ah + 1) else (ah, ownE t)) := hR
        clear hR hal hkl hac hkc hat hkt h hpb
        go_enter Try.func50, Try.ntmps50
        go_wp2_with fail
        refine (node_any _ lo t a ac ka _ kc ?_).mono ?_
        · exact (HAT.out.of_cells (fun b o hb1 hb2 => World.cell?_of_block (w := w) (a := ⟨b, o, none⟩) (HT0.out.block b (by omega) (by omega)))).mono (Nat.le_refl _) (Nat.le_trans hsz HT0.out.size)
        rintro e w1 ⟨rfl, hb1⟩
        have HT1 : Hid (Turn (fun b => b = pb) w w1) := HT0.out.then hb1 HT0.out.size
        have HI1 : Hid (IsCells w1 pb #[.int .i64 (ah + 1)]) := HI0.out.of_block (hb1.block pb HI0.out.lt)
        have hc1 : ∀ o, w1.cell? ⟨w.heap.size, o, none⟩ = _ := fun o => hb1.cell (p := ⟨w.heap.size, o, none⟩) (by simp)
        clear hb1
        by_cases ho : ownE t = 0
        · obtain ⟨ka', kc', hk1, _, hkt, hkm⟩ := HTR.out.kids ho
          rw [ho]
          have hR := HR.out
          rw [if_pos ho] at hR
          have HRR : Hid (chk (n + 1) t d ah = chkL (fun k x => chk n k (d + 1) x) (kidsT t) (ah + 1)) := hR
          have hko := kidsOf_any w1 t.kind t.name a t.attrs.length ac t.text ka t.kids.length kc
          rw [hk1] at hko
          unfold maxK at hkm
          have HKT : Hid (KidsAt w lo hi n ka' (kidsT t)) := hkt
          clear HR hR HTR HAT hk1 ho hkt HT0 HI0
          generalize kidsT t = L at *
          go_wp2_with fail
          refine hko.mono ?_
          rintro e w2 ⟨rfl, hb2⟩
          have HT2 : Hid (Turn (fun b => b = pb) w w2) := HT1.out.then hb2 HT1.out.size
          have HI2 : Hid (IsCells w2 pb #[.int .i64 (ah + 1)]) := HI1.out.of_block (hb2.block pb HI1.out.lt)
          clear hb2 hc1 HT1 HI1 hko
          go_wp2
          go_loopw [32] (fun v wr => ∃ (i : Nat) (x : Int), i ≤ L.length ∧ v = .int .i64 (i : Int) ∧ 0 ≤ x ∧ x ≤ 4096 ∧ Hid (chkL (fun k x => chk n k (d + 1) x) (L.drop i) x = chk (n + 1) t d ah) ∧ Hid (IsCells wr pb #[.int .i64 x]) ∧ Hid (Turn (fun b => b = pb) w wr)) (fun v _ => L.length - (intOf v).toNat)
          case atStart => exact ⟨0, ah + 1, by omega, rfl, by omega, by omega, HRR.out.symm, HI2, HT2⟩
          case round =>
            obtain ⟨i, x, hi', rfl, hx0, hx1, hgo, hiw, htw⟩ := hrel
            have hws := htw.out.size
            by_cases hlt : i < L.length
            · obtain ⟨k, hk⟩ : ∃ k, L[i]? = some k := ⟨_, List.getElem?_eq_getElem hlt⟩
              have hkt' := HKT.out.turn htw.out hsz (fun k h1 h2 => by omega)
              obtain ⟨b, o, kk, nm, a', al', ac', tx, ka2, kl2, kc2, rfl, hb1, hb2, c0, c1, c2, c3, c4, htr⟩ := hkt'.get hk
              have hbr : b < wr.heap.size := by omega
              have hstep := chkL_at (f := fun k x => chk n k (d + 1) x) (a := x) hk
              rw [hgo.out] at hstep
              have hge := chk_ge n k (d + 1) x
              have hle := chk_le n k (d + 1) x hx1
              have HST : Hid (chk (n + 1) t d ah = if (chk n k (d + 1) x).2 = 0 then chkL (fun k x => chk n k (d + 1) x) (L.drop (i + 1)) (chk n k (d + 1) x).1 else chk n k (d + 1) x) := hstep
              have HTR : Hid (TreeAt wr lo hi n #[.int .i64 kk, .string nm, .slice a' al' ac', .string tx, .slice ka2 kl2 kc2] k) := htr
              clear hstep hgo HKT hkt' hk htr HRR HT2 HI2
              go_wp2_with fail
              refine (ih _ _ k lo hi pb (d + 1) x (HTR.out.turn (A := fun _ => False) ((Turn.refl _ _).alloc _) (by omega) (fun _ _ _ h => h)) hhi (hiw.out.alloc _) hx0 hx1 (by omega) (by omega)).mono ?_
              rintro e w3 ⟨rfl, ht3, y, hy, hxy⟩
              have HT3 : Hid (Turn (fun b => b = pb) w w3) := htw.out.trans (((Turn.refl _ wr).alloc _).trans ht3)
              have HY : Hid (IsCells w3 pb #[.int .i64 y]) := hy
              have HXY : Hid ((chk n k (d + 1) x).2 = 0 → y = (chk n k (d + 1) x).1) := hxy
              clear ht3 hy hxy htw hiw HTR c0 c1 c2 c3 c4
              by_cases he : (chk n k (d + 1) x).2 = 0
              · have hyy := HXY.out he
                have hS := HST.out
                rw [if_pos he] at hS
                have HS : Hid (chk (n + 1) t d ah = chkL (fun k x => chk n k (d + 1) x) (L.drop (i + 1)) y) := by rw [hyy]; exact hS
                have hy0 : 0 ≤ y ∧ y ≤ 4096 := by omega
                rw [he]
                clear hyy hS HST HXY he
                go_wp2
                go_roundw
                case rel => exact ⟨i + 1, y, by omega, by go_num, hy0.1, hy0.2, HS.out.symm, HY, HT3⟩
                case measure => simp [intOf]; omega
              · have hbn : ((chk n k (d + 1) x).2 == 0) = false := beq_eq_false_iff_ne.2 he
                have hS := HST.out
                rw [if_neg he] at hS
                have HS : Hid (chk (n + 1) t d ah = chk n k (d + 1) x) := hS
                have HE : Hid (¬ (chk n k (d + 1) x).2 = 0) := he
                clear hS HST HXY he hge hle
                generalize hz : (chk n k (d + 1) x).2 = z at *
                have HZ : Hid ((chk n k (d + 1) x).2 = z) := hz
                clear hz
                go_wp2
                go_ret
                exact ⟨by rw [HS.out, HZ.out]; rfl, HT3.out, y, HY.out, fun h => by rw [HS.out, HZ.out] at h; exact (HE.out h).elim⟩
            · have hfin : chk (n + 1) t d ah = (x, 0) := by
                rw [← hgo.out, List.drop_eq_nil_of_le (by omega)]
                rfl
              have HF : Hid (chk (n + 1) t d ah = (x, 0)) := hfin
              clear hfin hgo HKT HRR HT2 HI2
              go_wp2
              go_ret
              exact ⟨by rw [HF.out]; rfl, htw.out, x, hiw.out, fun _ => by rw [HF.out]⟩
        · have hbn : (ownE t == 0) = false := beq_eq_false_iff_ne.2 ho
          have hR := HR.out
          rw [if_neg ho] at hR
          have HRR : Hid (chk (n + 1) t d ah = (ah, ownE t)) := hR
          have HO : Hid (¬ ownE t = 0) := ho
          clear HR hR HTR HAT ho HT0 HI0 ih
          generalize ownE t = x at *
          go_wp2
          go_ret
          exact ⟨by rw [HRR.out]; rfl, HT1.out, ah + 1, HI1.out, fun h => by rw [HRR.out] at h; exact (HO.out h).elim⟩

end Go.Proofs.Ytjkgjckkglfokab.Gr
