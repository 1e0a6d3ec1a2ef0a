/- The law's copied. -/
import Derived.Test.YtafpfelgngniiaaTho2
namespace Go.Proofs.Ytafpfelgngniiaa
open Go.RowKit
set_option linter.unusedVariables false

theorem plCells_at : ∀ (L : List Pl) (j : Nat) (u : Value), (plCells L)[j]? = some u → ∃ i x, L[i]? = some x ∧ ((j = i * 4 ∧ u = .int .u64 x.n) ∨ (j = i * 4 + 1 ∧ u = .int .u64 x.s.b) ∨ (j = i * 4 + 2 ∧ u = .int .u64 x.s.e) ∨ (j = i * 4 + 3 ∧ u = .int .i64 x.s.l))
  | [], j, u, h => by simp [plCells] at h
  | x :: r, 0, u, h => ⟨0, x, rfl, .inl ⟨rfl, by simpa [plCells] using h.symm⟩⟩
  | x :: r, 1, u, h => ⟨0, x, rfl, .inr (.inl ⟨rfl, by simpa [plCells] using h.symm⟩)⟩
  | x :: r, 2, u, h => ⟨0, x, rfl, .inr (.inr (.inl ⟨rfl, by simpa [plCells] using h.symm⟩))⟩
  | x :: r, 3, u, h => ⟨0, x, rfl, .inr (.inr (.inr ⟨rfl, by simpa [plCells] using h.symm⟩))⟩
  | x :: r, j + 4, u, h => by
    obtain ⟨i, y, hy, hc⟩ := plCells_at r j u (by simpa [plCells] using h)
    refine ⟨i + 1, y, by simpa using hy, ?_⟩
    rcases hc with ⟨h1, h2⟩ | ⟨h1, h2⟩ | ⟨h1, h2⟩ | ⟨h1, h2⟩
    · exact .inl ⟨by omega, h2⟩
    · exact .inr (.inl ⟨by omega, h2⟩)
    · exact .inr (.inr (.inl ⟨by omega, h2⟩))
    · exact .inr (.inr (.inr ⟨by omega, h2⟩))
theorem pls_news {w w' : World} {a : Option Addr} {L : List Pl} (h : PlsAt w w.heap.size a L) (hb : Below w.heap.size w w') : ∀ j u, (plCells L)[j]? = some u → ∃ ad, a = some ad ∧ w'.cell? (ad.add j) = some u := by
  intro j u hu
  obtain ⟨i, x, hx, hc⟩ := plCells_at L j u hu
  obtain ⟨g, o, rfl, hg, c0, c1, c2, c3⟩ := (h.below hb (Nat.le_refl _)) i x hx
  refine ⟨_, rfl, ?_⟩
  have e : (⟨g, o, none⟩ : Addr).add j = ⟨g, o + j, none⟩ := by unfold Addr.add; split <;> simp_all
  rw [e]
  rcases hc with ⟨rfl, rfl⟩ | ⟨rfl, rfl⟩ | ⟨rfl, rfl⟩ | ⟨rfl, rfl⟩
  · exact c0
  · exact c1
  · exact c2
  · exact c3

set_option maxRecDepth 100000 in
set_option maxHeartbeats 2000000 in
theorem copied_any (w : World) {a : Option Addr} {ca : Nat} {L : List Pl} (ha : PlsAt w w.heap.size a L) (hm : L.length ≤ maxLen) (hs : L.length * 32 ≤ 140737488355328) :
    Calls Try.prog 5 #[.slice a L.length ca] w fun e w' => ∃ va vc, e = .returned (.slice va L.length vc) ∧ w'.ownsRow w.heap.size 41 4 (.slice va L.length vc) L.length (plCells L) ∧ Below w.heap.size w w' := by
  have hb : Below w.heap.size w (w.alloc (.cells #[] 41)) := (Below.refl _ _).alloc (Nat.le_refl _) _
  have HN := pls_news ha hb
  have HN2 : Hid (∀ j u, (plCells L)[j]? = some u → ∃ ad, a = some ad ∧ (w.alloc (.cells #[] 41)).cell? (ad.add j) = some u) := HN
  have HOW : Hid ((w.alloc (.cells #[] 41)).ownsRow w.heap.size 41 4 (.slice (some ⟨w.heap.size, 0, none⟩) 0 0) 0 []) := own_new w 41 4
  have HB : Hid (∀ va vc w3, w3.ownsRow w.heap.size 41 4 (.slice va (0 + L.length) vc) (0 + L.length) ([] ++ plCells L) → (w.alloc (.cells #[] 41)).grownBy w3 (Value.slice (some ⟨w.heap.size, 0, none⟩) 0 0).ownBlock → ∃ va' vc', Ending.returned (.slice va L.length vc) = .returned (.slice va' L.length vc') ∧ w3.ownsRow w.heap.size 41 4 (.slice va' L.length vc') L.length (plCells L) ∧ Below w.heap.size w w3) := fun va vc w3 q1 q2 => by
    rw [Nat.zero_add, List.nil_append] at q1
    exact ⟨va, vc, rfl, q1, hb.grown q2 (by simp) (fun k hk => by cases hk; exact Nat.le_refl _)⟩
  have tok : True := trivial
  clear HN hb ha
  go_enter Try.func5, Try.ntmps5
  go_wp2_with (at_builtin; have _t := tok; refine wpList_app (by rfl) _ _ (by rfl) Try.underlying22 info41 rfl (by decide) w.heap.size (.slice (some ⟨w.heap.size, 0, none⟩) 0 0) 0 [] (by rfl) HOW.out a L.length ca (plCells L) (by rfl) (plCells_length L) HN2.out (plCells_one _) (by omega) (by omega) (by simp) ?_; intro v1 w3 hown1 hg1 _ hat1; obtain ⟨va, vc, hvv⟩ := own_slice hown1; subst hvv; have HX := HB.out va vc w3 hown1 hg1; have HX2 : Hid (∃ va' vc', Ending.returned (.slice va L.length vc) = .returned (.slice va' L.length vc') ∧ w3.ownsRow w.heap.size 41 4 (.slice va' L.length vc') L.length (plCells L) ∧ Below w.heap.size w w3) := HX; clear tok _t hown1 hg1 hat1 HX HB HOW HN2)
  go_ret
  exact HX2.out

end Go.Proofs.Ytafpfelgngniiaa
