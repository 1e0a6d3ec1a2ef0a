/- All of a text read; Parse. -/
import Derived.Test.YtmifejkddgcbmaaGreatA23
import Derived.Recover
namespace Go.Proofs.YtmifejkddgcbmaaGreat
open Go.RowKit
set_option linter.unusedVariables false
set_option linter.unusedSimpArgs false
attribute [local go_sem] Bel.cell Bel.fz

set_option maxRecDepth 100000 in
theorem forest_any (w : World) (b : Nat) (tx : ByteArray) (h : Rd w b tx ⟨0, 0, 0⟩) (hl : tx.size ≤ 262144) :
    Calls Tryz.prog 24 #[.pointer (some ⟨b, 0, none⟩)] w (Post w b tx (· = b) (forestP tx.data.toList) (SibV w 64)) := by
  have ok : Ok tx ⟨0, 0, 0⟩ := ⟨hl, Nat.zero_le _, Nat.zero_le _, Nat.zero_le _⟩
  have hsb := sib_any 64 w b tx _ h ok rfl
  have hbw := h.facts.2.2.2.2.2.2.2
  clear h
  cases hx1 : sibP tx.data.toList 64 ⟨0, 0, 0⟩ with
  | inr q_ =>
    obtain ⟨p, e⟩ := q_
    rw [hx1] at hsb
    have HG : Hid (forestP tx.data.toList = .inr (p, e)) := by show forestP _ = _; simp only [forestP, hx1]
    clear hx1
    go_enter Tryz.func24, Tryz.ntmps24
    go_wp2_with fail
    refine hsb.mono ?_
    rintro e w1 ⟨rfl, ht1⟩
    exact ⟨rfl, Post.no HG.out ht1⟩
  | inl q_ =>
    obtain ⟨x, s1⟩ := q_
    rw [hx1] at hsb
    have HX1 : Hid (sibP tx.data.toList 64 ⟨0, 0, 0⟩ = .inl (x, s1)) := hx1
    have HK1 : Hid (Ok tx s1) := (sibP_ok ok rfl hx1).2
    clear hx1
    go_enter Tryz.func24, Tryz.ntmps24
    go_wp2_with fail
    refine hsb.mono ?_
    rintro e w1 ⟨⟨a, cap, xs, Rf, rfl, hxl, hown, hfo, hRf⟩, hr1, ht1⟩
    have HR1 : Hid (Rd w1 b tx s1) := hr1
    have HT1 : Hid (Turn (fun x => x = b) w w1) := ht1
    have HO1 : Hid (w1.ownsRow w.heap.size 40 5 (.slice a x.length cap) x.length xs) := hown
    have HF1 : Hid (ForS (TreeS w1 64) Rf xs x) := hfo
    have HRF : Hid (∀ k, Rf k → w.heap.size ≤ k ∧ k < w1.heap.size ∧ (Value.slice a x.length cap).ownBlock ≠ some k) := hRf
    obtain ⟨h0, h1, h2, h3, f1, f2, f3, hb⟩ := hr1.facts
    have k2 := HK1.out.at_
    clear hsb hr1 ht1 hown hfo hRf
    by_cases hlt : s1.at_ < tx.size
    · have t1 : ((s1.at_ : Int) < (tx.size : Int)) := by omega
      have hen := fun (W : World) (hr : Rd W b tx s1) => end_any W b tx s1 hr HK1.out ⟨#[]⟩
      cases hx2 : endP tx.data.toList [] s1 with
      | inr q_ =>
        obtain ⟨p, e⟩ := q_
        have HG : Hid (forestP tx.data.toList = .inr (p, e)) := by show forestP _ = _; simp only [forestP, HX1.out, size_list, hlt, if_true, hx2]
        simp only [hx2] at hen
        clear hx2
        go_wp2_with (go_region)
        refine (hen _ HR1.out.drew).mono ?_
        rintro e w2 ⟨rfl, ht2⟩
        exact ⟨rfl, Post.no HG.out (HT1.out.drew.trans ht2)⟩
      | inl q_ =>
        obtain ⟨u, s2⟩ := q_
        have HG : Hid (forestP tx.data.toList = .inl (x, s2)) := by show forestP _ = _; simp only [forestP, HX1.out, size_list, hlt, if_true, hx2]
        simp only [hx2] at hen
        clear hx2
        go_wp2_with (go_region)
        refine (hen _ HR1.out.drew).mono ?_
        rintro e w2 ⟨rfl, hr2, ht2⟩
        have HV : Hid (SibV w 64 x (.returned (.slice a x.length cap)) w2) := ⟨a, cap, xs, Rf, rfl, hxl, own_row_to (show w1.drew.ownsRow _ _ _ _ _ _ from HO1.out) ht2 (fun k hk e => by omega), HF1.out.to (fun k hk => ht2.block k (HRF.out k hk).2.1 (by have := (HRF.out k hk).1; omega)) (fun _ h => h), fun k hk => ⟨(HRF.out k hk).1, Nat.lt_of_lt_of_le (HRF.out k hk).2.1 ht2.size, (HRF.out k hk).2.2⟩⟩
        have HT2 : Hid (Turn (fun x => x = b) w w2) := HT1.out.drew.trans ht2
        clear hen ht2
        go_wp2
        go_ret
        exact Post.yes HG.out HV.out hr2 HT2.out
    · have t1 : ¬ ((s1.at_ : Int) < (tx.size : Int)) := by omega
      have HG : Hid (forestP tx.data.toList = .inl (x, s1)) := by show forestP _ = _; simp only [forestP, HX1.out, size_list, hlt, if_false]
      go_wp2_with (go_region)
      go_ret
      exact Post.yes HG.out ⟨a, cap, xs, Rf, rfl, hxl, HO1.out, HF1.out, HRF.out⟩ HR1.out.drew HT1.out.drew

end Go.Proofs.YtmifejkddgcbmaaGreat

/- What is caught at Parse's face. -/
namespace Go.Proofs.YtmifejkddgcbmaaGreat
open Go.RowKit
set_option linter.unusedVariables false
set_option linter.unusedSimpArgs false

set_option maxRecDepth 100000 in
theorem catch_idle (p q r : Addr) (w : World) :
    CallsD Tryz.prog 23 #[.pointer (some p), .pointer (some q), .pointer (some r)] .returning w fun e u' w' => e = .returned (.tuple #[]) ∧ u' = .returning ∧ w' = w := by
  refine callsD_of_wpS Tryz.func23 rfl fun c₀ cs hu => ?_
  apply wpS_seq
  apply wpS_region
  simp [wpOpsS, go_sem, recoverD, hu, Tryz.ntmps23, Exit.thenS]
  refine wpS_of_wp ?_
  go_wp2
  cases c₀
  simp_all [bodyPostS, results, Tryz.results23]

theorem assert_fault (w : World) (v : Value) : (Instr.typeAssert (.iface 51 v) 20 51 true).run Tryz.prog w = .ok (.tuple #[v, .bool true]) w := by
  simp [Instr.typeAssert, run_underlying Tryz.underlying51]

set_option maxRecDepth 100000 in
set_option maxHeartbeats 1000000 in
theorem catch_panicking (p q r : Nat) (hpq : p ≠ q) (hpr : p ≠ r) (hqr : q ≠ r) (a : Nat) (e : Int) (w : World) (v1 v2 v3 : Value) (h1 : w.cell? ⟨p, 0, none⟩ = some v1) (h2 : w.cell? ⟨q, 0, none⟩ = some v2) (h3 : w.cell? ⟨r, 0, none⟩ = some v3)
    (f1 : w.frozen? ⟨p, 0, none⟩ = false) (f2 : w.frozen? ⟨q, 0, none⟩ = false) (f3 : w.frozen? ⟨r, 0, none⟩ = false) (hp : p < w.heap.size) (hq : q < w.heap.size) (hr : r < w.heap.size) :
    CallsD Tryz.prog 23 #[.pointer (some ⟨p, 0, none⟩), .pointer (some ⟨q, 0, none⟩), .pointer (some ⟨r, 0, none⟩)] (.panicking [{ v := .iface 51 (.agg #[.int .i64 (a : Int), .int .i64 e]), recovered := false }]) w fun e' u' w' =>
      e' = .returned (.tuple #[]) ∧ u' = .panicking [{ v := .iface 51 (.agg #[.int .i64 (a : Int), .int .i64 e]), recovered := true }] ∧
      w'.cell? ⟨p, 0, none⟩ = some (.slice none 0 0) ∧ w'.cell? ⟨q, 0, none⟩ = some (.int .i64 (a : Int)) ∧ w'.cell? ⟨r, 0, none⟩ = some (.int .i64 e) ∧ Turn (fun k => k = p ∨ k = q ∨ k = r) w w' := by
  refine callsD_of_wpS Tryz.func23 rfl fun c₀ cs hu => ?_
  apply wpS_seq
  apply wpS_region
  simp [wpOpsS, go_sem, recoverD, hu, Tryz.ntmps23, Exit.thenS]
  refine wpS_of_wp ?_
  change Code.wp _ _ _ { tmps := #[.pointer (some ⟨p, 0, none⟩), .pointer (some ⟨q, 0, none⟩), .pointer (some ⟨r, 0, none⟩), undef, undef, undef, .iface 51 (.agg #[.int .i64 (a : Int), .int .i64 e]), undef, undef, undef, undef, undef, undef, undef, undef, undef], defers := [] } w
  have hta := assert_fault w (.agg #[.int .i64 (a : Int), .int .i64 e])
  go_wp2
  have c1 : (w.alloc (.cells #[.int .i64 (a : Int), .int .i64 e] 51)).cell? ⟨p, 0, none⟩ = some v1 := (World.cell?_of_block (w := w) (a := ⟨p, 0, none⟩) (Below.heap_alloc _ _ _ hp)).trans h1
  have c2 : (w.alloc (.cells #[.int .i64 (a : Int), .int .i64 e] 51)).cell? ⟨q, 0, none⟩ = some v2 := (World.cell?_of_block (w := w) (a := ⟨q, 0, none⟩) (Below.heap_alloc _ _ _ hq)).trans h2
  have c3 : (w.alloc (.cells #[.int .i64 (a : Int), .int .i64 e] 51)).cell? ⟨r, 0, none⟩ = some v3 := (World.cell?_of_block (w := w) (a := ⟨r, 0, none⟩) (Below.heap_alloc _ _ _ hr)).trans h3
  have g1 : (w.alloc (.cells #[.int .i64 (a : Int), .int .i64 e] 51)).frozen? ⟨p, 0, none⟩ = false := ((below_new w _).frozen (p := ⟨p, 0, none⟩) hp).trans f1
  have g2 : (w.alloc (.cells #[.int .i64 (a : Int), .int .i64 e] 51)).frozen? ⟨q, 0, none⟩ = false := ((below_new w _).frozen (p := ⟨q, 0, none⟩) hq).trans f2
  have g3 : (w.alloc (.cells #[.int .i64 (a : Int), .int .i64 e] 51)).frozen? ⟨r, 0, none⟩ = false := ((below_new w _).frozen (p := ⟨r, 0, none⟩) hr).trans f3
  have c4 : (w.alloc (.cells #[.int .i64 (a : Int), .int .i64 e] 51)).cell? ⟨w.heap.size, 0, none⟩ = some (.int .i64 (a : Int)) := (isCells_new w _ _).cell 0
  have c5 : (w.alloc (.cells #[.int .i64 (a : Int), .int .i64 e] 51)).cell? ⟨w.heap.size, 1, none⟩ = some (.int .i64 e) := (isCells_new w _ _).cell 1
  have n1 : w.heap.size ≠ p := by omega
  have n2 : w.heap.size ≠ q := by omega
  have n3 : w.heap.size ≠ r := by omega
  have hz : (w.alloc (.cells #[.int .i64 (a : Int), .int .i64 e] 51)).heap.size = w.heap.size + 1 := by simp
  have HT : Hid (Turn (fun k => k = p ∨ k = q ∨ k = r) w (w.alloc (.cells #[.int .i64 (a : Int), .int .i64 e] 51))) := (Turn.refl _ w).alloc _
  generalize w.heap.size = N at *
  generalize w.alloc (.cells #[.int .i64 (a : Int), .int .i64 e] 51) = W at *
  clear h1 h2 h3 f1 f2 f3
  go_region
  refine ⟨rfl, _, rfl, .tuple #[], by simp [results, Tryz.results23, go_sem], rfl, rfl, ?_, ?_, ?_, ?_⟩
  · simp [go_sem, hpq, hpr, c1]
  · simp [go_sem, hqr, hpq, c2, Ne.symm hpq]
  · simp [go_sem, c3, Ne.symm hpr, Ne.symm hqr]
  · exact (((HT.out.setCell (p := ⟨p, 0, none⟩) (.inl rfl) _).setCell (p := ⟨q, 0, none⟩) (.inr (.inl rfl)) _).setCell (p := ⟨r, 0, none⟩) (.inr (.inr rfl)) _).drew

end Go.Proofs.YtmifejkddgcbmaaGreat

/- Parse of the program: a forest, or the place and the error. -/
namespace Go.Proofs.YtmifejkddgcbmaaGreat
open Go.RowKit
set_option linter.unusedVariables false
set_option linter.unusedSimpArgs false

/-- What Parse tells. -/
abbrev Pr := Sum (List (T 64)) (Nat × Int)
def parseP (l : Bs) : Pr := if 262144 < l.length then .inr (0, 2) else match forestP l with
  | .inl (x, _) => .inl x
  | .inr (p, e) => .inr (p, e)
/-- What it leaves, in memory of its own. -/
def PPost (w : World) (r : Pr) (e : Ending) (w' : World) : Prop := match r with
  | .inr (p, c) => e = .returned (.tuple #[.slice none 0 0, .int .i64 (p : Int), .int .i64 c]) ∧ Below w.heap.size w w'
  | .inl L => ∃ a cap xs Rf, e = .returned (.tuple #[.slice a L.length cap, .int .i64 0, .int .i64 0]) ∧ L.length ≤ 600000 ∧ w'.ownsRow w.heap.size 40 5 (.slice a L.length cap) L.length xs ∧ ForS (TreeS w' 64) Rf xs L ∧ (∀ b, Rf b → w.heap.size ≤ b ∧ b < w'.heap.size ∧ (Value.slice a L.length cap).ownBlock ≠ some b) ∧ Below w.heap.size w w'

set_option maxRecDepth 100000 in
set_option maxHeartbeats 1000000 in
theorem parse_long (w : World) (tx : ByteArray) (hl : 262144 < tx.size) : Calls Tryz.prog 9 #[.string tx] w (PPost w (.inr (0, 2))) := by
  have t1 : (262144 : Int) < (tx.size : Int) := by omega
  go_enter_defers Tryz.func9, Tryz.ntmps9
  go_wp2
  refine ⟨.tuple #[.slice none 0 0, .int .i64 0, .int .i64 2], ?_, rfl, ?_⟩
  · simp [results, Tryz.results9, go_sem]
  · exact (((Below.refl _ w).alloc (Nat.le_refl _) _).alloc (by simp) _).alloc (by simp; omega) _

/-- Four new blocks. -/
theorem four_new (w : World) (a b c d : Obj) : ((((w.alloc a).alloc b).alloc c).alloc d).heap.size = w.heap.size + 4 ∧ ((((w.alloc a).alloc b).alloc c).alloc d).heap[w.heap.size]? = some a ∧ ((((w.alloc a).alloc b).alloc c).alloc d).heap[w.heap.size + 1]? = some b ∧ ((((w.alloc a).alloc b).alloc c).alloc d).heap[w.heap.size + 2]? = some c ∧ ((((w.alloc a).alloc b).alloc c).alloc d).heap[w.heap.size + 3]? = some d ∧ Below w.heap.size w ((((w.alloc a).alloc b).alloc c).alloc d) := by
  have z1 : (w.alloc a).heap.size = w.heap.size + 1 := by simp
  have z2 : ((w.alloc a).alloc b).heap.size = w.heap.size + 2 := by simp
  have z3 : (((w.alloc a).alloc b).alloc c).heap.size = w.heap.size + 3 := by simp
  have z4 : ((((w.alloc a).alloc b).alloc c).alloc d).heap.size = w.heap.size + 4 := by simp
  refine ⟨z4, ?_, ?_, ?_, ?_, ?_⟩
  · rw [Below.heap_alloc _ _ _ (by omega), Below.heap_alloc _ _ _ (by omega), Below.heap_alloc _ _ _ (by omega)]; exact heap_alloc_new w a
  · rw [Below.heap_alloc _ _ _ (by omega), Below.heap_alloc _ _ _ (by omega)]; have := heap_alloc_new (w.alloc a) b; rwa [z1] at this
  · rw [Below.heap_alloc _ _ _ (by omega)]; have := heap_alloc_new ((w.alloc a).alloc b) c; rwa [z2] at this
  · have := heap_alloc_new (((w.alloc a).alloc b).alloc c) d; rwa [z3] at this
  · exact ((((Below.refl _ w).alloc (Nat.le_refl _) a).alloc (by omega) b).alloc (by omega) c).alloc (by omega) d

theorem cell_one {w : World} {b : Nat} {v : Value} {t : TypeId} (h : w.heap[b]? = some (.cells #[v] t (0, 0))) : w.cell? ⟨b, 0, none⟩ = some v ∧ w.frozen? ⟨b, 0, none⟩ = false := by
  constructor <;> simp [World.cell?, World.frozen?, h]

set_option maxRecDepth 100000 in
set_option maxHeartbeats 1000000 in
theorem parse_short (w : World) (tx : ByteArray) (hl : tx.size ≤ 262144) (h0 : 0 < w.heap.size) (m : Int) (hm : w.cell? ⟨0, 0, none⟩ = some (.int .i64 m)) : Calls Tryz.prog 9 #[.string tx] w (PPost w (parseP tx.data.toList)) := by
  have hmf : ∀ (fn : Fn) (first cap : Array Value) (w : World), (Instr.makeFunc fn first cap).run Tryz.prog w = .ok (.func fn first cap) w := fun _ _ _ _ => rfl
  have t1 : ¬ (262144 : Int) < (tx.size : Int) := by omega
  obtain ⟨z4, b0, b1, b2, b3, bel4⟩ := four_new w (.cells #[.slice none 0 0] 22) (.cells #[.int .i64 0] 3) (.cells #[.int .i64 0] 23) (.cells #[.string tx, .int .i64 0, .int .i64 0, .int .i64 0] 53)
  have hr4 : Rd ((((w.alloc (.cells #[.slice none 0 0] 22)).alloc (.cells #[.int .i64 0] 3)).alloc (.cells #[.int .i64 0] 23)).alloc (.cells #[.string tx, .int .i64 0, .int .i64 0, .int .i64 0] 53)) (w.heap.size + 3) tx ⟨0, 0, 0⟩ := ⟨b3, by omega, m, (bel4.cell (p := ⟨0, 0, none⟩) h0).trans hm⟩
  have hfo := forest_any _ _ tx hr4 hl
  have HG0 : Hid (parseP tx.data.toList = match forestP tx.data.toList with
    | .inl (x, _) => .inl x
    | .inr (p, e) => .inr (p, e)) := by
    show parseP _ = _
    unfold parseP
    rw [if_neg (by rw [size_list]; omega)]
  have HB4 : Hid (Below w.heap.size w _) := bel4
  have HB0 : Hid (_ = some (Obj.cells #[.slice none 0 0] 22 (0, 0))) := b0
  have HB1 : Hid (_ = some (Obj.cells #[.int .i64 0] 3 (0, 0))) := b1
  have HB2 : Hid (_ = some (Obj.cells #[.int .i64 0] 23 (0, 0))) := b2
  have HZ4 : Hid (_ = w.heap.size + 4) := z4
  clear b0 b1 b2 b3 bel4 hr4 z4
  cases hx : forestP tx.data.toList with
  | inr q_ =>
    obtain ⟨p, c⟩ := q_
    rw [hx] at hfo
    have HG : Hid (parseP tx.data.toList = .inr (p, c)) := by show parseP _ = _; rw [HG0.out, hx]
    clear hx HG0
    go_enter_defers Tryz.func9, Tryz.ntmps9
    go_wp2_with fail
    refine hfo.mono ?_
    rintro e w5 ⟨rfl, ht5⟩
    have q0 : w5.heap[w.heap.size]? = some (.cells #[.slice none 0 0] 22 (0, 0)) := (ht5.block _ (by rw [HZ4.out]; omega) (by omega)).trans HB0.out
    have q1 : w5.heap[w.heap.size + 1]? = some (.cells #[.int .i64 0] 3 (0, 0)) := (ht5.block _ (by rw [HZ4.out]; omega) (by omega)).trans HB1.out
    have q2 : w5.heap[w.heap.size + 2]? = some (.cells #[.int .i64 0] 23 (0, 0)) := (ht5.block _ (by rw [HZ4.out]; omega) (by omega)).trans HB2.out
    have hz5 := ht5.size
    rw [HZ4.out] at hz5
    have hbel : Below w.heap.size w w5 := HB4.out.trans (ht5.below (B := w.heap.size) (by rw [HZ4.out]; omega) (fun k hk => by omega))
    show bodyPostD _ _ _ _ _ _
    refine leaves_cons (f := 23) (args := #[.pointer (some ⟨w.heap.size, 0, none⟩), .pointer (some ⟨w.heap.size + 1, 0, none⟩), .pointer (some ⟨w.heap.size + 1 + 1, 0, none⟩)]) (by simp) (by simp [go_sem]) ?_
    refine (catch_panicking w.heap.size (w.heap.size + 1) (w.heap.size + 1 + 1) (by omega) (by omega) (by omega) p c w5 _ _ _ (cell_one q0).1 (cell_one q1).1 (cell_one q2).1 (cell_one q0).2 (cell_one q1).2 (cell_one q2).2 (by omega) (by omega) (by omega)).mono ?_
    rintro e u' w6 ⟨rfl, rfl, c1, c2, c3, ht6⟩
    refine ⟨.tuple #[.slice none 0 0, .int .i64 (p : Int), .int .i64 c], ?_, ?_⟩
    · simp [results, Tryz.results9, go_sem, c1, c2, c3]
    · rw [HG.out]
      exact ⟨rfl, hbel.trans (ht6.below (B := w.heap.size) (by omega) (fun k hk => by omega))⟩
  | inl q_ =>
    obtain ⟨x, s1⟩ := q_
    rw [hx] at hfo
    have HG : Hid (parseP tx.data.toList = .inl x) := by show parseP _ = _; rw [HG0.out, hx]
    clear hx HG0
    go_enter_defers Tryz.func9, Tryz.ntmps9
    go_wp2_with fail
    refine hfo.mono ?_
    rintro e w5 ⟨⟨a, cap, xs, Rf, rfl, hxl, hown, hfor, hRf⟩, hr5, ht5⟩
    rw [HZ4.out] at hown hRf
    have q0 : w5.heap[w.heap.size]? = some (.cells #[.slice none 0 0] 22 (0, 0)) := (ht5.block _ (by rw [HZ4.out]; omega) (by omega)).trans HB0.out
    have q1 : w5.heap[w.heap.size + 1]? = some (.cells #[.int .i64 0] 3 (0, 0)) := (ht5.block _ (by rw [HZ4.out]; omega) (by omega)).trans HB1.out
    have q2 : w5.heap[w.heap.size + 2]? = some (.cells #[.int .i64 0] 23 (0, 0)) := (ht5.block _ (by rw [HZ4.out]; omega) (by omega)).trans HB2.out
    have hz5 := ht5.size
    rw [HZ4.out] at hz5
    have HBEL : Hid (Below w.heap.size w w5) := HB4.out.trans (ht5.below (B := w.heap.size) (by rw [HZ4.out]; omega) (fun k hk => by omega))
    have HO : Hid (w5.ownsRow (w.heap.size + 4) 40 5 (.slice a x.length cap) x.length xs) := hown
    have HF : Hid (ForS (TreeS w5 64) Rf xs x) := hfor
    have HR : Hid (∀ k, Rf k → w.heap.size + 4 ≤ k ∧ k < w5.heap.size ∧ (Value.slice a x.length cap).ownBlock ≠ some k) := hRf
    obtain ⟨c0, f0⟩ := cell_one q0
    obtain ⟨c1, f1⟩ := cell_one q1
    obtain ⟨c2, f2⟩ := cell_one q2
    clear hfo hown hfor hRf hr5 ht5 q0 q1 q2 HB4 HB0 HB1 HB2 HZ4
    go_wp2
    refine leaves_cons (f := 23) (args := #[.pointer (some ⟨w.heap.size, 0, none⟩), .pointer (some ⟨w.heap.size + 1, 0, none⟩), .pointer (some ⟨w.heap.size + 1 + 1, 0, none⟩)]) (by simp) (by simp [go_sem]) ?_
    refine (catch_idle _ _ _ _).mono ?_
    rintro e u' w6 ⟨rfl, rfl, hw6⟩
    have oth : ∀ k, w.heap.size + 4 ≤ k → w6.heap[k]? = w5.heap[k]? := fun k hk => by
      rw [hw6, Below.heap_setCell _ _ _ _ (by show k ≠ w.heap.size + 1 + 1; omega), Below.heap_setCell _ _ _ _ (by show k ≠ w.heap.size + 1; omega), Below.heap_setCell _ _ _ _ (by show k ≠ w.heap.size; omega)]
    have hsz6 : w6.heap.size = w5.heap.size := by rw [hw6]; simp [World.setCell]
    have hb6 : Below w.heap.size w w6 := by
      have h5 := HBEL.out
      refine ⟨by rw [hw6]; exact h5.os, by rw [hw6]; exact h5.tape, by rw [hw6]; exact h5.output, by rw [hsz6]; exact h5.size, fun k hk => ?_⟩
      rw [hw6, Below.heap_setCell _ _ _ _ (by show k ≠ w.heap.size + 1 + 1; omega), Below.heap_setCell _ _ _ _ (by show k ≠ w.heap.size + 1; omega), Below.heap_setCell _ _ _ _ (by show k ≠ w.heap.size; omega)]
      exact h5.block k hk
    refine ⟨.tuple #[.slice a x.length cap, .int .i64 0, .int .i64 0], ?_, ?_⟩
    · rw [hw6]
      simp [results, Tryz.results9, go_sem, c0, c1, c2]
    · rw [HG.out]
      exact ⟨a, cap, xs, Rf, rfl, hxl, own_base (own_of_block HO.out (fun k hk => oth k (own_block_lt HO.out k hk).1)) (fun k hk => by have := (own_block_lt HO.out k hk).1; omega), HF.out.to (fun k hk => oth k (HR.out k hk).1) (fun _ h => h), fun k hk => ⟨by have := (HR.out k hk).1; omega, by rw [hsz6]; exact (HR.out k hk).2.1, (HR.out k hk).2.2⟩, hb6⟩

theorem parse_any (w : World) (tx : ByteArray) (h0 : 0 < w.heap.size) (m : Int) (hm : w.cell? ⟨0, 0, none⟩ = some (.int .i64 m)) : Calls Tryz.prog 9 #[.string tx] w (PPost w (parseP tx.data.toList)) := by
  by_cases hl : tx.size ≤ 262144
  · exact parse_short w tx hl h0 m hm
  · have : parseP tx.data.toList = .inr (0, 2) := by unfold parseP; rw [if_pos (by rw [size_list]; omega)]
    rw [this]
    exact parse_long w tx (by omega)

end Go.Proofs.YtmifejkddgcbmaaGreat
