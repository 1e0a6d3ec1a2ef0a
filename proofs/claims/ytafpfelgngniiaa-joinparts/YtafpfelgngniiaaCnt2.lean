/- counts. -/
import Derived.Test.YtafpfelgngniiaaCnt
import Derived.Laws.MakeOwn
namespace Go.Proofs.Ytafpfelgngniiaa
open Go.RowKit
set_option linter.unusedVariables false

theorem made_cn (n : Nat) : madeCells (Value.int .i64 0).cells (n * 1) = cnA n (fun _ => 0) := by
  apply Array.ext
  · simp [madeCells, cnA]
  · intro i h1 h2
    simp [madeCells, cnA, Value.cells, Nat.mod_one]
theorem make_cn (W : World) (n : Nat) (hn : n ≤ 4194304) : (Instr.makeSlice 32 (.int .i64 (n : Int)) (.int .i64 (n : Int))).run Try.prog W = .ok (.slice (some ⟨W.heap.size, 0, none⟩) n n) (W.alloc (.cells (cnA n (fun _ => 0)) 3)) := by
  obtain ⟨i0, hi0, hz0, hz1, hz2⟩ := info3.parts
  have := run_makeSlice (P := Try.prog) (w := W) 32 3 i0 (.int .i64 0) Try.underlying32 hi0 hz0 .i64 .i64 (n : Int) (n : Int) (by omega) (by omega) (by rw [hz1]; omega) (by rw [hz2]; omega) (by omega)
  rw [this, hz1]
  have e : ((n : Int)).toNat = n := by omega
  rw [e, made_cn]

/-- What counts leaves. -/
def CnP (w : World) (n : Nat) (f : Nat → Nat) (e : Ending) (w' : World) : Prop := ∃ nr, e = .returned (.slice (some ⟨nr, 0, none⟩) n n) ∧ w.heap.size ≤ nr ∧ IsCells w' nr (cnA n f) ∧ Below w.heap.size w w'

set_option maxRecDepth 100000 in
set_option maxHeartbeats 4000000 in
theorem counts_any (w : World) {A D : List Pl} {a d : Option Addr} {ca cd : Nat} (dr : Bool) (hA : PlsAt w w.heap.size a A) (hD : PlsAt w w.heap.size d D) (hCan : Can A D) (lA : A.length ≤ 8192) (lD : D.length ≤ 8192) :
    Calls Try.prog 26 #[.slice a A.length ca, .slice d D.length cd, .bool dr] w (CnP w A.length (cnF dr A D)) := by
  have hmk := make_cn w A.length (by omega)
  obtain ⟨w2, hw2⟩ : ∃ w2, (w.alloc (.cells (cnA A.length (fun _ => 0)) 3)).alloc (.cells #[.slice (some ⟨w.heap.size, 0, none⟩) A.length A.length] 32) = w2 := ⟨_, rfl⟩
  have b2 : Below w.heap.size w w2 := by rw [← hw2]; exact ((Below.refl _ _).alloc (Nat.le_refl _) _).alloc (by simp) _
  have hs2 : w.heap.size + 2 = w2.heap.size := by rw [← hw2]; simp
  have z0 : IsCells w2 w.heap.size (cnA A.length (fun _ => 0)) := by rw [← hw2]; exact (isCells_new w _ 3).alloc _
  have z1 : IsCells w2 (w.heap.size + 1) #[.slice (some ⟨w.heap.size, 0, none⟩) A.length A.length] := by
    have := isCells_new (w.alloc (.cells (cnA A.length (fun _ => 0)) 3)) #[.slice (some ⟨w.heap.size, 0, none⟩) A.length A.length] 32
    rw [hw2] at this
    simpa using this
  have h0 : CJ (w.heap.size + 1) w.heap.size A.length (fun i => cnF dr A (D.take i)) 0 (fun b => b = w.heap.size + 1 ∨ b = w.heap.size) w2 := ⟨rfl, z1, z0⟩
  have hm := meet_any w2 (a := a) (d := d) (ca := ca) (cd := cd) (CJ.ok (B := w.heap.size) (by omega) (by omega)) hCan lA lD (fun _ _ => by kernel_rfl) (counts1_tells (by omega) lA lD) h0 (by omega) (hA.below b2 (Nat.le_refl _)) (hD.below b2 (Nat.le_refl _))
  have HE : Hid (∀ Y, (∃ C', Tn (fun b => b = w.heap.size + 1 ∨ b = w.heap.size) w2 Y ∧ (∀ b, C' b → (b = w.heap.size + 1 ∨ b = w.heap.size) ∨ w2.heap.size ≤ b) ∧ CJ (w.heap.size + 1) w.heap.size A.length (fun i => cnF dr A (D.take i)) D.length C' Y) → IsCells Y (w.heap.size + 1) #[.slice (some ⟨w.heap.size, 0, none⟩) A.length A.length] ∧ CnP w A.length (cnF dr A D) (.returned (.slice (some ⟨w.heap.size, 0, none⟩) A.length A.length)) Y) := by
    rintro Y ⟨C', t, -, rfl, g1, g2⟩
    simp only [List.take_length] at g2
    refine ⟨g1, _, rfl, Nat.le_refl _, g2, b2.trans (t.below (by omega) (fun b h => by omega))⟩
  have HM : Hid (Calls Try.prog 23 #[.slice a A.length ca, .slice d D.length cd, .bool dr, .func (.func 42) #[] #[.pointer (some ⟨w.heap.size + 1, 0, none⟩)]] w2 fun e Y => (∃ v, e = .returned v) ∧ IsCells Y (w.heap.size + 1) #[.slice (some ⟨w.heap.size, 0, none⟩) A.length A.length] ∧ CnP w A.length (cnF dr A D) (.returned (.slice (some ⟨w.heap.size, 0, none⟩) A.length A.length)) Y) := hm.mono (fun e Y h => ⟨h.1, HE.out Y h.2⟩)
  have HW : Hid ((w.alloc (.cells (cnA A.length (fun _ => 0)) 3)).alloc (.cells #[.slice (some ⟨w.heap.size, 0, none⟩) A.length A.length] 32) = w2) := hw2
  generalize CnP w A.length (cnF dr A D) = Q at HM HE ⊢
  clear hw2 hA hD b2 hCan z0 z1 h0 hm HE
  have em : ∀ args w, (callFunc 23 args).run Try.prog w = .ok (.enter 23 args) w := fun _ _ => by kernel_rfl
  generalize cnA A.length (fun _ => 0) = cs0 at hmk HW
  go_enter Try.func26, Try.ntmps26
  go_wp2_with fail
  rw [HW.out]
  with_reducible refine HM.out.mono ?_
  rintro e Y ⟨⟨v, rfl⟩, g1, g2⟩
  have g3 : Y.cell? ⟨w.heap.size + 1, 0, none⟩ = some (.slice (some ⟨w.heap.size, 0, none⟩) A.length A.length) := g1.cell 0
  have g4 := g1.lt
  have HX : Hid (Q (.returned (.slice (some ⟨w.heap.size, 0, none⟩) A.length A.length)) Y) := g2
  clear g1 g2 HM
  go_wp2
  exact HX.out

end Go.Proofs.Ytafpfelgngniiaa
