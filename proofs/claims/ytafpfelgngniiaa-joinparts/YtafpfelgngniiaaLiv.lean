/- The law's lives. -/
import Derived.Test.YtafpfelgngniiaaKp
namespace Go.Proofs.Ytafpfelgngniiaa
open Go.RowKit
set_option linter.unusedVariables false

def A0 : List Pl := [⟨1, ⟨1, 4, 0⟩⟩]
def D0 : List Pl := [⟨2, ⟨2, 3, 1⟩⟩]
theorem prE0 : prE true A0 D0 = [(1, 2)] := by kernel_rfl
theorem prY0 : prY true A0 D0 = 0 := by kernel_rfl
theorem pls_one {w : World} {b : Nat} {x : Pl} (h : IsCells w b #[.int .u64 x.n, .int .u64 x.s.b, .int .u64 x.s.e, .int .i64 x.s.l]) : PlsAt w w.heap.size (some ⟨b, 0, none⟩) [x] := by
  intro i y hy
  cases i with
  | zero =>
    simp at hy
    subst hy
    refine ⟨b, 0, rfl, h.lt, ?_, ?_, ?_, ?_⟩ <;> rw [h.cell] <;> rfl
  | succ i => simp at hy

set_option maxRecDepth 100000 in
set_option maxHeartbeats 2000000 in
theorem lives_any (w : World) : Calls Try.prog 20 #[] w fun e w' => e = .returned (.bool true) ∧ Below w.heap.size w w' := by
  obtain ⟨w2, hw2⟩ : ∃ w2, (w.alloc (.cells #[.int .u64 1, .int .u64 1, .int .u64 4, .int .i64 0] 41)).alloc (.cells #[.int .u64 2, .int .u64 2, .int .u64 3, .int .i64 1] 41) = w2 := ⟨_, rfl⟩
  have b2 : Below w.heap.size w w2 := by rw [← hw2]; exact ((Below.refl _ _).alloc (Nat.le_refl _) _).alloc (by simp) _
  have z0 : IsCells w2 w.heap.size #[.int .u64 1, .int .u64 1, .int .u64 4, .int .i64 0] := by rw [← hw2]; exact (isCells_new w _ 41).alloc _
  have z1 : IsCells w2 (w.heap.size + 1) #[.int .u64 2, .int .u64 2, .int .u64 3, .int .i64 1] := by
    have := isCells_new (w.alloc (.cells #[.int .u64 1, .int .u64 1, .int .u64 4, .int .i64 0] 41)) #[.int .u64 2, .int .u64 2, .int .u64 3, .int .i64 1] 41
    rw [hw2] at this
    simpa using this
  have hc : Calls Try.prog 6 #[.slice (some ⟨w.heap.size, 0, none⟩) 1 1, .slice (some ⟨w.heap.size + 1, 0, none⟩) 1 1, .bool true] w2 fun e Y => ∃ g o vc, e = .returned (.tuple #[.slice (some ⟨g, o, none⟩) 1 vc, .int .i64 0]) ∧ Y.cell? ⟨g, o, none⟩ = some (.int .u64 1) ∧ Y.cell? ⟨g, o + 1, none⟩ = some (.int .u64 2) ∧ Hid (Below w.heap.size w Y) := by
    refine (pairs_any w2 (A := A0) (D := D0) (ca := 1) (cd := 1) true (pls_one z0) (pls_one z1) (fun x hx => by simp [A0] at hx; subst hx; exact ⟨by decide, by decide⟩) (fun x hx => by simp [D0] at hx; subst hx; exact ⟨by decide, by decide⟩)).mono fun e Y h => ?_
    rw [prE0, prY0] at h
    obtain ⟨va, vc, h1, h2, h3⟩ := h
    obtain ⟨g, o, h4, h5, h6, h7⟩ := h2 0 (1, 2) rfl
    subst h4
    exact ⟨g, o, vc, h1, by simpa using h6, by simpa using h7, b2.trans (h3.mono b2.size)⟩
  have HW : Hid ((w.alloc (.cells #[.int .u64 1, .int .u64 1, .int .u64 4, .int .i64 0] 41)).alloc (.cells #[.int .u64 2, .int .u64 2, .int .u64 3, .int .i64 1] 41) = w2) := hw2
  clear hw2 b2 z0 z1
  go_enter Try.func20, Try.ntmps20
  go_wp2_with fail
  rw [HW.out]
  with_reducible refine hc.mono ?_
  rintro e X ⟨g, o, vc, rfl, c0, c1, HB⟩
  go_wp2
  go_ret
  exact ⟨rfl, HB.out⟩

end Go.Proofs.Ytafpfelgngniiaa
