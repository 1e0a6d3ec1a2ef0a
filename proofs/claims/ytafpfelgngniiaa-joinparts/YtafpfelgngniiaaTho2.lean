/- those. -/
import Derived.Test.YtafpfelgngniiaaTho
import Derived.Test.YtafpfelgngniiaaJnb
namespace Go.Proofs.Ytafpfelgngniiaa
open Go.RowKit
set_option linter.unusedVariables false

theorem own_less {w : World} {b b' : Nat} {e : TypeId} {size : Nat} {v : Value} {n : Nat} {xs : List Value} (h : w.ownsRow b e size v n xs) (hb : b' ≤ b) : w.ownsRow b' e size v n xs := by
  refine ⟨h.1, ?_⟩
  rcases h.2 with h | ⟨g, cap, cur, e1, h2, h3⟩
  · exact .inl h
  · exact .inr ⟨g, cap, cur, e1, by omega, h3⟩
theorem own_none (w : World) (b : Nat) (e : TypeId) (size : Nat) : w.ownsRow b e size (.slice none 0 0) 0 [] := ⟨by simp, .inl ⟨rfl, rfl⟩⟩
theorem err_lvl {A D : List Pl} {y : Int} (h : errP A D = y) : y = 0 ∨ y ≠ 0 := by omega

/-- What a function that answers a list and a number leaves. -/
def LsP (w : World) (e : TypeId) (size : Nat) (n : Nat) (xs : List Value) (y : Int) (en : Ending) (w' : World) : Prop :=
  ∃ va vc, en = .returned (.tuple #[.slice va n vc, .int .i64 y]) ∧ w'.ownsRow w.heap.size e size (.slice va n vc) n xs ∧ Below w.heap.size w w'

set_option maxRecDepth 100000 in
set_option maxHeartbeats 4000000 in
theorem those_err (w : World) {A D : List Pl} {a d : Option Addr} {ca cd : Nat} (dr s : Bool) (hA : PlsAt w w.heap.size a A) (hD : PlsAt w w.heap.size d D) (hva : ∀ x ∈ A, Lvl x.s) (hvd : ∀ x ∈ D, Lvl x.s) (y : Int) (hy : errP A D = y) (hne : y ≠ 0) :
    Calls Try.prog 27 #[.slice a A.length ca, .slice d D.length cd, .bool dr, .bool s] w (LsP w 41 4 0 [] y) := by
  obtain ⟨w2, hw2⟩ : ∃ w2, (w.alloc (.cells #[.slice d D.length cd] 22)).alloc (.cells #[.bool s] 4) = w2 := ⟨_, rfl⟩
  have b2 : Below w.heap.size w w2 := by rw [← hw2]; exact ((Below.refl _ _).alloc (Nat.le_refl _) _).alloc (by simp) _
  have hs2 : w.heap.size ≤ w2.heap.size := b2.size
  have hjn := joinable_any w2 (ca := ca) (cd := cd) ((hA.below b2 (Nat.le_refl _)).more hs2) ((hD.below b2 (Nat.le_refl _)).more hs2) hva hvd y hy
  have HW : Hid ((w.alloc (.cells #[.slice d D.length cd] 22)).alloc (.cells #[.bool s] 4) = w2) := hw2
  have HR : Hid (∀ X, Below w2.heap.size w2 X → LsP w 41 4 0 [] y (.returned (.tuple #[.slice none 0 0, .int .i64 y])) X) := fun X h => ⟨none, 0, rfl, own_none _ _ _ _, b2.trans (h.mono hs2)⟩
  generalize LsP w 41 4 0 [] y = Q at HR ⊢
  clear hw2 hA hD hva hvd hy b2
  go_enter Try.func27, Try.ntmps27
  go_wp2_with fail
  rw [HW.out]
  with_reducible refine hjn.mono ?_
  rintro e X ⟨rfl, hb⟩
  have HX : Hid (Q (.returned (.tuple #[.slice none 0 0, .int .i64 y])) X) := HR.out X hb
  clear hb hjn HR HW
  go_wp2
  exact HX.out

set_option maxRecDepth 100000 in
set_option maxHeartbeats 4000000 in
theorem those_ok (w : World) {A D : List Pl} {a d : Option Addr} {ca cd : Nat} (dr s : Bool) (hA : PlsAt w w.heap.size a A) (hD : PlsAt w w.heap.size d D) (hva : ∀ x ∈ A, Lvl x.s) (hvd : ∀ x ∈ D, Lvl x.s) (hy : errP A D = 0) :
    Calls Try.prog 27 #[.slice a A.length ca, .slice d D.length cd, .bool dr, .bool s] w (LsP w 41 4 (inL s dr A D).length (plCells (inL s dr A D)) 0) := by
  obtain ⟨hCan, lA, lD⟩ := err_can hy
  obtain ⟨w2, hw2⟩ : ∃ w2, (w.alloc (.cells #[.slice d D.length cd] 22)).alloc (.cells #[.bool s] 4) = w2 := ⟨_, rfl⟩
  have b2 : Below w.heap.size w w2 := by rw [← hw2]; exact ((Below.refl _ _).alloc (Nat.le_refl _) _).alloc (by simp) _
  have hs2 : w.heap.size + 2 = w2.heap.size := by rw [← hw2]; simp
  have hjn := joinable_any w2 (ca := ca) (cd := cd) ((hA.below b2 (Nat.le_refl _)).more (by omega)) ((hD.below b2 (Nat.le_refl _)).more (by omega)) hva hvd 0 hy
  have z0 : IsCells w2 w.heap.size #[.slice d D.length cd] := by rw [← hw2]; exact (isCells_new w _ 22).alloc _
  have z1 : IsCells w2 (w.heap.size + 1) #[.bool s] := by
    have := isCells_new (w.alloc (.cells #[.slice d D.length cd] 22)) #[.bool s] 4
    rw [hw2] at this
    simpa using this
  have HW : Hid ((w.alloc (.cells #[.slice d D.length cd] 22)).alloc (.cells #[.bool s] 4) = w2) := hw2
  have HM : Hid (∀ X, Below w2.heap.size w2 X → ∀ X', X.alloc (.cells #[.slice none 0 0] 22) = X' → Calls Try.prog 23 #[.slice a A.length ca, .slice d D.length cd, .bool dr, .func (.func 43) #[] #[.pointer (some ⟨w.heap.size + 1, 0, none⟩), .pointer (some ⟨X.heap.size, 0, none⟩), .pointer (some ⟨w.heap.size, 0, none⟩)]] X' fun e Y => (∃ v, e = .returned v) ∧ ∃ va vc, IsCells Y X.heap.size #[.slice va (inL s dr A D).length vc] ∧ LsP w 41 4 (inL s dr A D).length (plCells (inL s dr A D)) 0 (.returned (.tuple #[.slice va (inL s dr A D).length vc, .int .i64 0])) Y) := by
    intro X hX X' hX'
    have bX : Below w2.heap.size w2 X' := by rw [← hX']; exact hX.alloc hX.size _
    have bw : Below w.heap.size w X' := b2.trans (bX.mono (by omega))
    have hxs := hX.size
    have hR := ThR.ok (N := w.heap.size) (B := w.heap.size) (lb := X.heap.size) (s := s) (D := D) (d := d) (cd := cd) (Nat.le_refl _) (by omega)
    have tX : Tn (fun _ => False) w2 X' := Tn.of_below bX (Nat.le_refl _)
    have hl : IsCells X' X.heap.size #[.slice none 0 0] := by rw [← hX']; exact isCells_new X _ 22
    have h0 : LJ X.heap.size 41 4 (fun i => (inL s dr A (D.take i)).length) (fun i => plCells (inL s dr A (D.take i))) (ThF w.heap.size) (ThR w.heap.size w.heap.size s D d cd) 0 (fun b => (b = X.heap.size ∨ (Value.slice none 0 0).ownBlock = some b) ∨ ThF w.heap.size b) X' :=
      ⟨_, rfl, ⟨none, 0, hl, own_none _ _ _ _, rfl⟩, z0.tn tX id, z1.tn tX id, hD.below bw (Nat.le_refl _)⟩
    have hm := meet_any X' (a := a) (d := d) (ca := ca) (cd := cd) (LJ.ok hR (by omega)) hCan lA lD (fun _ _ => by kernel_rfl) (those1_tells (Nat.le_refl _) (by omega) lA lD) h0 bw.size (hA.below bw (Nat.le_refl _)) (hD.below bw (Nat.le_refl _))
    refine hm.mono ?_
    rintro e Y ⟨hv, C', t, hc, Cl, rfl, ⟨va, vc, g1, g2, rfl⟩, -⟩
    simp only [List.take_length] at g1 g2
    refine ⟨hv, va, vc, g1, va, vc, rfl, own_less g2 (by omega), bw.trans (t.below bw.size ?_)⟩
    rintro b ((h | h) | h)
    · omega
    · cases h
    · rcases h with h | h <;> omega
  have e0 : w2.cell? ⟨w.heap.size, 0, none⟩ = some (.slice d D.length cd) := z0.cell 0
  have HC : Hid (∀ X, Below w2.heap.size w2 X → X.cell? ⟨w.heap.size, 0, none⟩ = some (.slice d D.length cd) ∧ w2.heap.size ≤ X.heap.size ∧ (X.alloc (.cells #[.slice none 0 0] 22)).cell? ⟨w.heap.size, 0, none⟩ = some (.slice d D.length cd)) := fun X h => by
    have tX : Tn (fun _ => False) w2 X := Tn.of_below h (Nat.le_refl _)
    exact ⟨(tX.cell z0.lt id).trans e0, h.size, ((tX.alloc _).cell z0.lt id).trans e0⟩
  generalize LsP w 41 4 (inL s dr A D).length (plCells (inL s dr A D)) 0 = Q at HM ⊢
  generalize (inL s dr A D).length = n at HM ⊢
  clear hw2 hA hD hva hvd hy b2 hCan z0 z1
  have em : ∀ args w, (callFunc 23 args).run Try.prog w = .ok (.enter 23 args) w := fun _ _ => by kernel_rfl
  go_enter Try.func27, Try.ntmps27
  go_wp2_with fail
  rw [HW.out]
  with_reducible refine hjn.mono ?_
  rintro e X ⟨rfl, hb⟩
  obtain ⟨c0, hxs, c1⟩ := HC.out X hb
  obtain ⟨X', hX'⟩ : ∃ X', X.alloc (.cells #[.slice none 0 0] 22) = X' := ⟨_, rfl⟩
  have hm := HM.out X hb X' hX'
  have HX' : Hid (X.alloc (.cells #[.slice none 0 0] 22) = X') := hX'
  clear hb hjn HC HW HM e0 hX'
  go_wp2_with fail
  rw [HX'.out]
  with_reducible refine hm.mono ?_
  rintro e Y ⟨⟨v, rfl⟩, va, vc, g1, g2⟩
  have g3 : Y.cell? ⟨X.heap.size, 0, none⟩ = some (.slice va n vc) := g1.cell 0
  have g4 := g1.lt
  have HX : Hid (Q (.returned (.tuple #[.slice va n vc, .int .i64 0])) Y) := g2
  clear g1 g2 hm HX'
  go_wp2
  exact HX.out

end Go.Proofs.Ytafpfelgngniiaa
