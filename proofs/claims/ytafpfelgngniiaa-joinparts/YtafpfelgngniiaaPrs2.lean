/- Pairs. -/
import Derived.Test.YtafpfelgngniiaaPrs
namespace Go.Proofs.Ytafpfelgngniiaa
open Go.RowKit
set_option linter.unusedVariables false

set_option maxRecDepth 100000 in
set_option maxHeartbeats 4000000 in
theorem pairs_err (w : World) {A D : List Pl} {a d : Option Addr} {ca cd : Nat} (dr : Bool) (hA : PlsAt w w.heap.size a A) (hD : PlsAt w w.heap.size d D) (hva : ∀ x ∈ A, Lvl x.s) (hvd : ∀ x ∈ D, Lvl x.s) (y : Int) (hy : errP A D = y) (hne : y ≠ 0) :
    Calls Try.prog 6 #[.slice a A.length ca, .slice d D.length cd, .bool dr] w (LsP w 46 2 0 [] y) := by
  obtain ⟨w2, hw2⟩ : ∃ w2, (w.alloc (.cells #[.slice a A.length ca] 22)).alloc (.cells #[.slice d D.length cd] 22) = w2 := ⟨_, rfl⟩
  have b2 : Below w.heap.size w w2 := by rw [← hw2]; exact ((Below.refl _ _).alloc (Nat.le_refl _) _).alloc (by simp) _
  have hs2 : w.heap.size ≤ w2.heap.size := b2.size
  have hjn := joinable_any w2 (ca := ca) (cd := cd) ((hA.below b2 (Nat.le_refl _)).more hs2) ((hD.below b2 (Nat.le_refl _)).more hs2) hva hvd y hy
  have HW : Hid ((w.alloc (.cells #[.slice a A.length ca] 22)).alloc (.cells #[.slice d D.length cd] 22) = w2) := hw2
  have HR : Hid (∀ X, Below w2.heap.size w2 X → LsP w 46 2 0 [] y (.returned (.tuple #[.slice none 0 0, .int .i64 y])) X) := fun X h => ⟨none, 0, rfl, own_none _ _ _ _, b2.trans (h.mono hs2)⟩
  generalize LsP w 46 2 0 [] y = Q at HR ⊢
  clear hw2 hA hD hva hvd hy b2
  go_enter Try.func6, Try.ntmps6
  go_wp2_with fail
  rw [HW.out]
  with_reducible refine hjn.mono ?_
  rintro e X ⟨rfl, hb⟩
  have HX : Hid (Q (.returned (.tuple #[.slice none 0 0, .int .i64 y])) X) := HR.out X hb
  clear hb hjn HR HW
  go_wp2
  exact HX.out

/-- What Pairs answers where both can be joined. -/
def PrP (w : World) (L : List (Int × Int)) (e : Ending) (w' : World) : Prop := if 16384 < L.length then LsP w 46 2 0 [] 2 e w' else LsP w 46 2 L.length (prCells L) 0 e w'

set_option maxRecDepth 100000 in
set_option maxHeartbeats 4000000 in
theorem pairs_ok (w : World) {A D : List Pl} {a d : Option Addr} {ca cd : Nat} (dr : Bool) (hA : PlsAt w w.heap.size a A) (hD : PlsAt w w.heap.size d D) (hva : ∀ x ∈ A, Lvl x.s) (hvd : ∀ x ∈ D, Lvl x.s) (hy : errP A D = 0) :
    Calls Try.prog 6 #[.slice a A.length ca, .slice d D.length cd, .bool dr] w (PrP w (prL dr A D)) := by
  obtain ⟨hCan, lA, lD⟩ := err_can hy
  obtain ⟨w2, hw2⟩ : ∃ w2, (w.alloc (.cells #[.slice a A.length ca] 22)).alloc (.cells #[.slice d D.length cd] 22) = w2 := ⟨_, rfl⟩
  have b2 : Below w.heap.size w w2 := by rw [← hw2]; exact ((Below.refl _ _).alloc (Nat.le_refl _) _).alloc (by simp) _
  have hs2 : w.heap.size + 2 = w2.heap.size := by rw [← hw2]; simp
  have hjn := joinable_any w2 (ca := ca) (cd := cd) ((hA.below b2 (Nat.le_refl _)).more (by omega)) ((hD.below b2 (Nat.le_refl _)).more (by omega)) hva hvd 0 hy
  have z0 : IsCells w2 w.heap.size #[.slice a A.length ca] := by rw [← hw2]; exact (isCells_new w _ 22).alloc _
  have z1 : IsCells w2 (w.heap.size + 1) #[.slice d D.length cd] := by
    have := isCells_new (w.alloc (.cells #[.slice a A.length ca] 22)) #[.slice d D.length cd] 22
    rw [hw2] at this
    simpa using this
  have hcl : (prL dr A D).length ≤ 67108864 := Nat.le_trans (prL_len dr A _) (Nat.mul_le_mul lD lA)
  have HW : Hid ((w.alloc (.cells #[.slice a A.length ca] 22)).alloc (.cells #[.slice d D.length cd] 22) = w2) := hw2
  have HM : Hid (∀ X, Below w2.heap.size w2 X → ∀ X', ((X.alloc (.cells #[.slice none 0 0] 24)).alloc (.cells #[.int .i64 0] 3)) = X' → Calls Try.prog 23 #[.slice a A.length ca, .slice d D.length cd, .bool dr, .func (.func 24) #[] #[.pointer (some ⟨X.heap.size + 1, 0, none⟩), .pointer (some ⟨X.heap.size, 0, none⟩), .pointer (some ⟨w.heap.size, 0, none⟩), .pointer (some ⟨w.heap.size + 1, 0, none⟩)]] X' fun e Y => (∃ v, e = .returned v) ∧ IsCells Y (X.heap.size + 1) #[.int .i64 ((prL dr A D).length : Int)] ∧ ∃ va n vc, IsCells Y X.heap.size #[.slice va n vc] ∧ (16384 < (prL dr A D).length → PrP w (prL dr A D) (.returned (.tuple #[.slice none 0 0, .int .i64 2])) Y) ∧ (¬ 16384 < (prL dr A D).length → PrP w (prL dr A D) (.returned (.tuple #[.slice va n vc, .int .i64 0])) Y)) := by
    intro X hX X' hX'
    have bX1 : Below w2.heap.size w2 (X.alloc (.cells #[.slice none 0 0] 24)) := hX.alloc hX.size _
    have bX : Below w2.heap.size w2 X' := by rw [← hX']; exact bX1.alloc bX1.size _
    have bw : Below w.heap.size w X' := b2.trans (bX.mono (by omega))
    have hxs := hX.size
    have tX : Tn (fun _ => False) w2 X' := Tn.of_below bX (Nat.le_refl _)
    have hl : IsCells X' X.heap.size #[.slice none 0 0] := by rw [← hX']; exact (isCells_new X _ 24).alloc _
    have hc : IsCells X' (X.heap.size + 1) #[.int .i64 0] := by
      have := isCells_new (X.alloc (.cells #[.slice none 0 0] 24)) #[.int .i64 0] 3
      rw [hX'] at this
      simpa using this
    have h0 : PJ w.heap.size X.heap.size (X.heap.size + 1) w.heap.size dr A D a d ca cd 0 (fun b => (b = X.heap.size ∨ (Value.slice none 0 0).ownBlock = some b) ∨ b = X.heap.size + 1 ∨ ThF w.heap.size b) X' :=
      ⟨_, 0, [], rfl, fun h => h.elim (fun h => by omega) (fun h => by cases h), ⟨none, 0, hl, own_none _ _ _ _, rfl⟩, by omega, fun _ => ⟨rfl, rfl⟩, hc, z0.tn tX id, z1.tn tX id, hA.below bw (Nat.le_refl _), hD.below bw (Nat.le_refl _)⟩
    have hm := meet_any X' (a := a) (d := d) (ca := ca) (cd := cd) (PJ.ok (Nat.le_refl _) (by omega) (by omega)) hCan lA lD (fun _ _ => by kernel_rfl) (pairs1_tells (Nat.le_refl _) (by omega) (by omega) lA lD) h0 bw.size (hA.below bw (Nat.le_refl _)) (hD.below bw (Nat.le_refl _))
    refine hm.mono ?_
    rintro e Y ⟨hv, C', t, hc', Cl, n, xs, rfl, -, ⟨va, vc, g1, g2, rfl⟩, g3, g4, g5, -⟩
    simp only [List.take_length] at g4 g5
    have hbY : Below w.heap.size w Y := bw.trans (t.below bw.size (by
      rintro b ((h | h) | h | h)
      · omega
      · cases h
      · omega
      · rcases h with h | h <;> omega))
    refine ⟨hv, g5, va, n, vc, g1, fun h => ?_, fun h => ?_⟩
    · unfold PrP
      rw [if_pos h]
      exact ⟨none, 0, rfl, own_none _ _ _ _, hbY⟩
    · unfold PrP
      rw [if_neg h]
      obtain ⟨rfl, rfl⟩ := g4 (by omega)
      exact ⟨va, vc, rfl, own_less g2 (by omega), hbY⟩
  have e0 : w2.cell? ⟨w.heap.size, 0, none⟩ = some (.slice a A.length ca) := z0.cell 0
  have e1 : w2.cell? ⟨w.heap.size + 1, 0, none⟩ = some (.slice d D.length cd) := z1.cell 0
  have HC : Hid (∀ X, Below w2.heap.size w2 X → w2.heap.size ≤ X.heap.size ∧ ((X.alloc (.cells #[.slice none 0 0] 24)).alloc (.cells #[.int .i64 0] 3)).cell? ⟨w.heap.size, 0, none⟩ = some (.slice a A.length ca) ∧ ((X.alloc (.cells #[.slice none 0 0] 24)).alloc (.cells #[.int .i64 0] 3)).cell? ⟨w.heap.size + 1, 0, none⟩ = some (.slice d D.length cd)) := fun X h => by
    have tX : Tn (fun _ => False) w2 X := Tn.of_below h (Nat.le_refl _)
    exact ⟨h.size, (((tX.alloc _).alloc _).cell z0.lt id).trans e0, (((tX.alloc _).alloc _).cell z1.lt id).trans e1⟩
  generalize PrP w (prL dr A D) = Q at HM ⊢
  generalize (prL dr A D).length = m at HM hcl ⊢
  clear hw2 hA hD hva hvd hy b2 hCan z0 z1
  have em : ∀ args w, (callFunc 23 args).run Try.prog w = .ok (.enter 23 args) w := fun _ _ => by kernel_rfl
  go_enter Try.func6, Try.ntmps6
  go_wp2_with fail
  rw [HW.out]
  with_reducible refine hjn.mono ?_
  rintro e X ⟨rfl, hb⟩
  obtain ⟨hxs, c0, c1⟩ := HC.out X hb
  obtain ⟨X', hX'⟩ : ∃ X', ((X.alloc (.cells #[.slice none 0 0] 24)).alloc (.cells #[.int .i64 0] 3)) = X' := ⟨_, rfl⟩
  have hm := HM.out X hb X' hX'
  have HX' : Hid (((X.alloc (.cells #[.slice none 0 0] 24)).alloc (.cells #[.int .i64 0] 3)) = X') := hX'
  clear hb hjn HC HW HM e0 e1 hX'
  go_wp2_with fail
  rw [HX'.out]
  with_reducible refine hm.mono ?_
  rintro e Y ⟨⟨v, rfl⟩, g0, va, n, vc, g1, g2, g2'⟩
  have g3 : Y.cell? ⟨X.heap.size, 0, none⟩ = some (.slice va n vc) := g1.cell 0
  have g4 : Y.cell? ⟨X.heap.size + 1, 0, none⟩ = some (.int .i64 (m : Int)) := g0.cell 0
  have g5 := g1.lt
  have g6 := g0.lt
  by_cases hgt : 16384 < m
  · have HX : Hid (Q (.returned (.tuple #[.slice none 0 0, .int .i64 2])) Y) := g2 hgt
    have hg9 : (16384 : Int) < (m : Int) := by omega
    clear g0 g1 g2 g2' hm HX'
    go_wp2
    exact HX.out
  · have HX : Hid (Q (.returned (.tuple #[.slice va n vc, .int .i64 0])) Y) := g2' hgt
    have hg9 : ¬ ((16384 : Int) < (m : Int)) := by omega
    clear g0 g1 g2 g2' hm HX'
    go_wp2
    exact HX.out

end Go.Proofs.Ytafpfelgngniiaa
