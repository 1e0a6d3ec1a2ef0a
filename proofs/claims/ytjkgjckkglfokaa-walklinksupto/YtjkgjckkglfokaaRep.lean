/- The law's function for Flat; numbers: an iterator held against a list. -/
import Derived.Test.YtjkgjckkglfokaaMk
namespace Go.Proofs.Ytjkgjckkglfokaa
open Go.RowKit Go.Shelf
set_option linter.unusedVariables false

set_option maxRecDepth 100000 in
set_option maxHeartbeats 2000000 in
theorem rep_flat : IsFlat Try.prog 48 #[] (fun x => List.replicate (oft x) x) (fun _ => False) (fun _ => True) := by
  refine ⟨enters_of Try.func48 (by kernel_rfl) rfl, fun _ _ _ h => h.elim, fun _ _ _ _ _ _ => trivial, fun W x _ => ?_⟩
  have hof := often_any (W.alloc (.cells #[.int .i64 x] 3)) x
  have hmf : ∀ (fn : Fn) (first cap : Array Value) (w : World), (Instr.makeFunc fn first cap).run Try.prog w = .ok (.func fn first cap) w := fun _ _ _ _ => rfl
  have HB : Hid (Below W.heap.size W (W.alloc (.cells #[.int .i64 x] 3))) := (Below.refl _ _).alloc (Nat.le_refl _) _
  have HC : Hid (IsC (W.alloc (.cells #[.int .i64 x] 3)) W.heap.size #[.int .i64 x]) := isC_new _ _ _
  simp only [List.append_toArray, List.append_nil]
  by_cases h : oft x = 0
  · have hb : ((oft x : Int) == 0) = true := by simp [h]
    have HO : Hid (oft x = 0) := h
    clear h
    go_enter Try.func48, Try.ntmps48
    go_wp2_with fail
    refine hof.mono ?_
    rintro e w' ⟨rfl, rfl⟩
    clear hof
    go_wp2
    go_ret
    refine ⟨_, rfl, HB.out, fun l J Jx C0 D h1 h2 _ h3 _ => ?_⟩
    rw [HO.out]
    refine (tell_nil _ l J Jx C0 D h1 h3).mono ?_
    rintro e Y ⟨bv, q1, q2, -, C, q3, q4⟩
    exact ⟨bv, q1, q2.mono (fun _ _ h => h.elim False.elim .inr), C, q3, q4⟩
  · have hb : ((oft x : Int) == 0) = false := by simp [h]
    clear h
    go_enter Try.func48, Try.ntmps48
    go_wp2_with fail
    refine hof.mono ?_
    rintro e w' ⟨rfl, rfl⟩
    clear hof
    go_wp2
    go_ret
    refine ⟨_, rfl, HB.out, fun l J Jx C0 D h1 h2 hY h3 h4 => ?_⟩
    refine (tell_any (rep_seq (xb := W.heap.size) (x := x)) (enters_of Try.func49 (by kernel_rfl) rfl) _ l J Jx C0 D HC.out h1 h2 hY h3 (fun b hb e => by have := h4 b (.inl hb); omega) (fun _ _ h => h)).mono ?_
    rintro e Y ⟨bv, q1, q2, -, C, q3, q4⟩
    exact ⟨bv, q1, q2.mono (fun _ _ h => h.elim False.elim .inr), C, q3, q4⟩

end Go.Proofs.Ytjkgjckkglfokaa
