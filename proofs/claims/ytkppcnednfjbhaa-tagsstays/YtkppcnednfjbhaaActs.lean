/- TagsActs' walk: whatever tags come and go, every answer is the document's. -/
import Derived.Test.YtkppcnednfjbhaaGap
namespace Go.Proofs.Ytkppcnednfjbhaa
open Go.RowKit Go.Maps

/-- A slice of acts that came in. -/
def IsActs (w : World) (a : Option Addr) (len : Nat) : Prop := ∀ i, i < len → ∃ (b off : Nat) (kind how : Int) (tag oth : Nat), a = some ⟨b, off, none⟩ ∧ b < w.heap.size ∧ w.cell? ⟨b, off + i * 4, none⟩ = some (.int .i64 kind) ∧ w.cell? ⟨b, off + i * 4 + 1, none⟩ = some (.int .i64 how) ∧
  w.cell? ⟨b, off + i * 4 + 2, none⟩ = some (.int .u64 (tag : Int)) ∧ w.cell? ⟨b, off + i * 4 + 3, none⟩ = some (.int .u64 (oth : Int)) ∧ tag < 18446744073709551616 ∧ oth < 18446744073709551616

set_option maxRecDepth 100000 in
set_option maxHeartbeats 2000000 in
theorem acts_walk (a : Option Addr) (len cap : Nat) (w : World) (h1 : IsActs w a len) (hl : len ≤ 4398046511104) :
    Calls Try.prog 3 #[.slice a len cap] w fun e w' => e = .returned (.bool true) ∧ Below w.heap.size w w' := by
  have hlm : (len : Int) ≤ 4398046511104 := by omega
  have H1 : Hid (IsActs w a len) := h1
  clear h1
  go_enter Try.func3, Try.ntmps3
  go_wp2
  go_loopw [5] (fun i wr => ∃ (k : Nat) (S : St) (sl : Option (Nat × Nat)) (T : List Nat) (g : Nat), k ≤ len ∧ i = .int .i64 (k : Int) ∧ g ≤ k ∧ Hid (Both w.heap.size wr w.heap.size (w.heap.size + 1) S sl T g) ∧ Hid (Below w.heap.size w wr)) (fun i _ => len - (intOf i).toNat)
  case atStart => exact ⟨0, newSt, none, [], 0, Nat.zero_le _, rfl, Nat.le_refl _, both_new w, ((Below.refl _ _).alloc (Nat.le_refl _) _).alloc (by simp) _⟩
  case round =>
    obtain ⟨k, S, sl, T, g, hk, rfl, hgk, hH, hB⟩ := hrel
    by_cases hlt : k < len
    · obtain ⟨b, off, kind, how, tag, oth, ha, hbs, c0, c1, c2, c3, ht, ho⟩ := H1.out k hlt
      subst ha
      have d0 : wr.cell? ⟨b, off + k * 4, none⟩ = some (.int .i64 kind) := by rw [hB.out.cell (p := ⟨b, off + k * 4, none⟩) hbs]; exact c0
      have d1 : wr.cell? ⟨b, off + k * 4 + 1, none⟩ = some (.int .i64 how) := by rw [hB.out.cell (p := ⟨b, off + k * 4 + 1, none⟩) hbs]; exact c1
      have d2 : wr.cell? ⟨b, off + k * 4 + 2, none⟩ = some (.int .u64 (tag : Int)) := by rw [hB.out.cell (p := ⟨b, off + k * 4 + 2, none⟩) hbs]; exact c2
      have d3 : wr.cell? ⟨b, off + k * 4 + 3, none⟩ = some (.int .u64 (oth : Int)) := by rw [hB.out.cell (p := ⟨b, off + k * 4 + 3, none⟩) hbs]; exact c3
      have hdoes := does_any w.heap.size wr w.heap.size (w.heap.size + 1) S sl T g kind how tag oth hH.out hB.out.size (by omega) ht ho
      clear c0 c1 c2 c3
      go_wp2_with fail
      refine hdoes.mono ?_
      rintro e w1 ⟨rfl, hb, S', sl', T', g', hB', hg1, hg2, -, -⟩
      have HB1 : Hid (Below w.heap.size w w1) := hB.out.trans hb
      have HH1 : Hid (Both w.heap.size w1 w.heap.size (w.heap.size + 1) S' sl' T' g') := hB'
      have hrises := rises_any w.heap.size w1 w.heap.size (w.heap.size + 1) S' sl' T' g' hB' (by omega)
      clear hdoes hb hB' d0 d1 d2 d3
      by_cases h7 : k % 8 = 7
      · have b7 : ((k : Int) % 8 == 7) = true := beq_iff_eq.2 (by omega)
        clear h7
        go_wp2_with fail
        refine hrises.mono ?_
        rintro e w2 ⟨rfl, m, rfl⟩
        clear hrises
        go_wp2
        go_roundw
        case rel => exact ⟨k + 1, S', sl', T', g', by omega, by go_num, by omega, HH1.out.drewN m, ⟨HB1.out.os, HB1.out.tape, HB1.out.output, HB1.out.size, HB1.out.block⟩⟩
        case measure => simp [intOf]; omega
      · have b7 : ((k : Int) % 8 == 7) = false := beq_eq_false_iff_ne.2 (by omega)
        clear h7 hrises
        go_wp2
        go_roundw
        case rel => exact ⟨k + 1, S', sl', T', g', by omega, by go_num, by omega, HH1, HB1⟩
        case measure => simp [intOf]; omega
    · have hafter := after_has wr w.heap.size S T g 0 hH.out.p (by omega) (by omega)
      go_wp2_with fail
      refine hafter.mono ?_
      rintro e w1 ⟨rfl, S', hH1, hT1, hO1⟩
      have hm := hH.out.mid hH1 hT1 hO1
      have hrafter := rafter_any w1 (w.heap.size + 1) sl T g 0 hm.1 hH.out.p.tlen (by omega)
      have X1 : Hid (Has w1 w.heap.size S' (afterT T g 0) (afterG T g 0)) := hH1
      have X2 : Hid (Turn (Own w.heap.size S) wr w1) := hT1
      have X3 : Hid (∀ k, Own w.heap.size S' k → Own w.heap.size S k ∨ wr.heap.size ≤ k) := hO1
      clear hafter hH1 hT1 hO1 hm
      go_wp2_with fail
      refine hrafter.mono ?_
      rintro e w2 ⟨rfl, sl', hR, hT', hO'⟩
      have hl := hH.out.last hB.out.size X1.out X2.out X3.out hR hT' hO'
      have hg' := (afterG_le T g 0).2
      have hrises := rises_any w.heap.size w2 w.heap.size (w.heap.size + 1) S' sl' _ _ hl.1 (by omega)
      have HB2 : Hid (Below w.heap.size w w2) := hB.out.trans hl.2
      clear hrafter hR hT' hO' hl hg'
      go_wp2_with fail
      refine hrises.mono ?_
      rintro e w3 ⟨rfl, m, rfl⟩
      clear hrises
      go_wp2
      go_ret
      exact ⟨rfl, ⟨HB2.out.os, HB2.out.tape, HB2.out.output, HB2.out.size, HB2.out.block⟩⟩

end Go.Proofs.Ytkppcnednfjbhaa
