/- meet. -/
import Derived.Test.YtafpfelgngniiaaMet2
import Derived.Test.YtafpfelgngniiaaMet3
import Derived.Test.YtafpfelgngniiaaNst3
namespace Go.Proofs.Ytafpfelgngniiaa
open Go.RowKit
set_option linter.unusedVariables false

def cs65 : Array Value := Array.replicate 65 (.slice none 0 0)
theorem zero56 (w : World) : Sem.run Try.prog (zeroValue 56) w = .ok (.agg cs65) w := by kernel_rfl
attribute [local go_sem] zero56

theorem stks_nil (dr : Bool) (A : List Pl) (c : Int) : Stks dr A 0 c (fun _ => []) := by
  refine ⟨?_, ?_, ?_, ?_⟩ <;> simp

theorem meet_start {w W6 : World} {B : Nat} {A D : List Pl} {a d : Option Addr} {ca cd tf : Nat} {tb : Array Value} {dr : Bool} {J : TeI} {C : Nat → Prop} (hJ : TeOk J B) (hCan : Can A D) (h0 : J 0 C w) (hB : B ≤ w.heap.size) (hA : PlsAt w B a A) (hD : PlsAt w B d D)
    (h6 : (((((w.alloc (.cells #[.slice a A.length ca] 22)).alloc (.cells #[.slice d D.length cd] 22)).alloc (.cells #[.bool dr] 4)).alloc (.cells #[.func (.func tf) #[] tb] 48)).alloc (.cells cs65 56)).alloc (.cells #[.func (.func 36) #[] #[.pointer (some ⟨w.heap.size + 2, 0, none⟩)]] 57) = W6) :
    Tn (fun _ => False) w W6 ∧ MtI w.heap.size B dr A D a d ca cd tf tb J 0 0 (MtC w.heap.size cs65 C) W6 := by
  have n := fun (w : World) (o : Obj) => (Tn.refl (fun _ => False) w).alloc o
  have y0 := isCells_new w #[.slice a A.length ca] 22
  have y1 := isCells_new (w.alloc (.cells #[.slice a A.length ca] 22)) #[.slice d D.length cd] 22
  have y2 := isCells_new ((w.alloc (.cells #[.slice a A.length ca] 22)).alloc (.cells #[.slice d D.length cd] 22)) #[.bool dr] 4
  have y3 := isCells_new (((w.alloc (.cells #[.slice a A.length ca] 22)).alloc (.cells #[.slice d D.length cd] 22)).alloc (.cells #[.bool dr] 4)) #[.func (.func tf) #[] tb] 48
  have y4 := isCells_new ((((w.alloc (.cells #[.slice a A.length ca] 22)).alloc (.cells #[.slice d D.length cd] 22)).alloc (.cells #[.bool dr] 4)).alloc (.cells #[.func (.func tf) #[] tb] 48)) cs65 56
  have y5 := isCells_new (((((w.alloc (.cells #[.slice a A.length ca] 22)).alloc (.cells #[.slice d D.length cd] 22)).alloc (.cells #[.bool dr] 4)).alloc (.cells #[.func (.func tf) #[] tb] 48)).alloc (.cells cs65 56)) #[.func (.func 36) #[] #[.pointer (some ⟨w.heap.size + 2, 0, none⟩)]] 57
  have z0 := ((((y0.alloc (.cells #[.slice d D.length cd] 22)).alloc (.cells #[.bool dr] 4)).alloc (.cells #[.func (.func tf) #[] tb] 48)).alloc (.cells cs65 56)).alloc (.cells #[.func (.func 36) #[] #[.pointer (some ⟨w.heap.size + 2, 0, none⟩)]] 57)
  have z1 := (((y1.alloc (.cells #[.bool dr] 4)).alloc (.cells #[.func (.func tf) #[] tb] 48)).alloc (.cells cs65 56)).alloc (.cells #[.func (.func 36) #[] #[.pointer (some ⟨w.heap.size + 2, 0, none⟩)]] 57)
  have z2 := ((y2.alloc (.cells #[.func (.func tf) #[] tb] 48)).alloc (.cells cs65 56)).alloc (.cells #[.func (.func 36) #[] #[.pointer (some ⟨w.heap.size + 2, 0, none⟩)]] 57)
  have z3 := (y3.alloc (.cells cs65 56)).alloc (.cells #[.func (.func 36) #[] #[.pointer (some ⟨w.heap.size + 2, 0, none⟩)]] 57)
  have z4 := y4.alloc (.cells #[.func (.func 36) #[] #[.pointer (some ⟨w.heap.size + 2, 0, none⟩)]] 57)
  have tW : Tn (fun _ => False) w W6 := by rw [← h6]; exact (((((n _ _).alloc _).alloc _).alloc _).alloc _).alloc _
  rw [h6] at z0 z1 z2 z3 z4 y5
  simp only [World.size_alloc, Nat.add_assoc, Nat.reduceAdd] at z0 z1 z2 z3 z4 y5
  have hs := y5.lt
  have hb : Below B w W6 := tW.below hB (fun _ h => h.elim)
  have hsb : ∀ b, ¬ Sb cs65 b := by
    rintro b ⟨s, v, h1, h2⟩
    simp only [cs65, Array.getElem?_replicate] at h1
    split at h1
    · cases h1
      cases h2
    · cases h1
  have hlt := hJ.lt h0
  refine ⟨tW, C, cs65, fun _ => [], 0, rfl, ⟨fun b hb' => ⟨fun h => ?_, hsb b⟩, hJ.stab h0 tW (fun _ h => h.elim), ⟨z4, fun s hs' => ⟨none, 0, ?_, ⟨rfl, .inl ⟨rfl, rfl⟩⟩⟩, fun s s' v v' b h1 _ h3 _ => (hsb b ⟨s, v, h1, h3⟩).elim, by simp [cs65]⟩, stks_nil dr A 0, ⟨fun x hx => ?_, fun y hy => ?_, fun j x y hj => by omega, by omega⟩, z0, z1, z2, z3, y5, hA.below hb (Nat.le_refl _), hD.below hb (Nat.le_refl _), hB⟩⟩
  · have := (hlt b hb').2
    omega
  · simp [cs65, hs']
  · have := (hCan.va x (List.mem_of_getElem? hx)).1
    omega
  · have := (hCan.vd y (List.mem_of_getElem? hy)).1
    omega

theorem meet_end {w W6 X : World} {B : Nat} {A D : List Pl} {a d : Option Addr} {ca cd tf : Nat} {tb : Array Value} {dr : Bool} {J : TeI} {C : Nat → Prop} (hJ : TeOk J B) (tW : Tn (fun _ => False) w W6) (h : ThS (MtI w.heap.size B dr A D a d ca cd tf tb J) A.length D.length (MtC w.heap.size cs65 C) W6 X) :
    ∃ C', Tn C w X ∧ (∀ b, C' b → C b ∨ w.heap.size ≤ b) ∧ J D.length C' X := by
  obtain ⟨C2, t, hc, Cj, cs, S, c, rfl, hM⟩ := h
  have hsb : ∀ b, ¬ Sb cs65 b := by
    rintro b ⟨s, v, h1, h2⟩
    simp only [cs65, Array.getElem?_replicate] at h1
    split at h1
    · cases h1
      cases h2
    · cases h1
  have hk : ∀ b, MtC w.heap.size cs65 C b → C b ∨ w.heap.size ≤ b := by
    rintro b (h | h | h)
    · exact .inl h
    · exact .inr h.1
    · exact (hsb b h).elim
  refine ⟨Cj, (tW.mono (fun _ _ h => h.elim)).trans t (fun b hb h => (hk b h).elim id (fun h => by omega)), fun b hb => ?_, hM.j⟩
  rcases hc b (.inl hb) with h | h
  · exact hk b h
  · exact .inr (Nat.le_trans tW.size h)

set_option maxRecDepth 100000 in
set_option maxHeartbeats 1000000 in
theorem meet_any (w : World) {B : Nat} {A D : List Pl} {a d : Option Addr} {ca cd tf : Nat} {tb : Array Value} {dr : Bool} {J : TeI} {C : Nat → Prop} (hJ : TeOk J B) (hCan : Can A D) (lA : A.length ≤ 8192) (lD : D.length ≤ 8192) (et : ∀ args w, (callFunc tf args).run Try.prog w = .ok (.enter tf args) w) (hT : Tells tf tb dr A D J) (h0 : J 0 C w) (hB : B ≤ w.heap.size) (hA : PlsAt w B a A) (hD : PlsAt w B d D) :
    Calls Try.prog 23 #[.slice a A.length ca, .slice d D.length cd, .bool dr, .func (.func tf) #[] tb] w fun e w' => (∃ v, e = .returned v) ∧ ∃ C', Tn C w w' ∧ (∀ b, C' b → C b ∨ w.heap.size ≤ b) ∧ J D.length C' w' := by
  obtain ⟨W6, hW6⟩ : ∃ W6, (((((w.alloc (.cells #[.slice a A.length ca] 22)).alloc (.cells #[.slice d D.length cd] 22)).alloc (.cells #[.bool dr] 4)).alloc (.cells #[.func (.func tf) #[] tb] 48)).alloc (.cells cs65 56)).alloc (.cells #[.func (.func 36) #[] #[.pointer (some ⟨w.heap.size + 2, 0, none⟩)]] 57) = W6 := ⟨_, rfl⟩
  have HW6 : Hid ((((((w.alloc (.cells #[.slice a A.length ca] 22)).alloc (.cells #[.slice d D.length cd] 22)).alloc (.cells #[.bool dr] 4)).alloc (.cells #[.func (.func tf) #[] tb] 48)).alloc (.cells cs65 56)).alloc (.cells #[.func (.func 36) #[] #[.pointer (some ⟨w.heap.size + 2, 0, none⟩)]] 57) = W6) := hW6
  obtain ⟨tW, hI⟩ := meet_start hJ hCan h0 hB hA hD hW6
  have hbl : Below B w W6 := tW.below hB (fun _ h => h.elim)
  have hth := through_any (MtI.ok hJ) (ca := ca) (cd := cd) (gf := 38) (hf := 40) (lb := #[.pointer (some ⟨w.heap.size + 5, 0, none⟩), .pointer (some ⟨w.heap.size, 0, none⟩), .pointer (some ⟨w.heap.size + 4, 0, none⟩)]) (hb := #[.pointer (some ⟨w.heap.size + 5, 0, none⟩), .pointer (some ⟨w.heap.size + 1, 0, none⟩), .pointer (some ⟨w.heap.size, 0, none⟩), .pointer (some ⟨w.heap.size + 4, 0, none⟩), .pointer (some ⟨w.heap.size + 3, 0, none⟩)]) (fun _ _ => by kernel_rfl) (fun _ _ => by kernel_rfl) W6 _ hI (hA.below hbl (Nat.le_refl _)) (hD.below hbl (Nat.le_refl _)) lA lD (fun k i C X x hx hy h => mouter_any hJ hCan lA k i C X x hx hy h) (fun k i C X y hy hx h => minner_any hJ hCan lA lD et hT k i C X y hy hx h)
  have HE : Hid (∀ e X, ThP (MtI w.heap.size B dr A D a d ca cd tf tb J) A.length D.length (MtC w.heap.size cs65 C) W6 e X → (∃ v, e = .returned v) ∧ ∃ C', Tn C w X ∧ (∀ b, C' b → C b ∨ w.heap.size ≤ b) ∧ J D.length C' X) := fun e X h => ⟨h.1, meet_end hJ tW h.2⟩
  generalize ThP (MtI w.heap.size B dr A D a d ca cd tf tb J) A.length D.length (MtC w.heap.size cs65 C) W6 = Q at hth HE
  have HQ2 : Hid (∀ X, (∃ C', Tn C w X ∧ (∀ b, C' b → C b ∨ w.heap.size ≤ b) ∧ J D.length C' X) → (∃ v, Ending.returned (.tuple #[]) = .returned v) ∧ ∃ C', Tn C w X ∧ (∀ b, C' b → C b ∨ w.heap.size ≤ b) ∧ J D.length C' X) := fun X h => ⟨⟨_, rfl⟩, h⟩
  clear hW6 tW hI hbl hA hD hT hJ hCan h0 hB
  go_enter Try.func23, Try.ntmps23
  go_wp2_with fail
  simp only [Nat.add_assoc, Nat.reduceAdd]
  rw [HW6.out]
  with_reducible refine hth.mono ?_
  intro e X hP
  obtain ⟨⟨v, rfl⟩, hc⟩ := HE.out e X hP
  have HX : Hid ((∃ v, Ending.returned (.tuple #[]) = .returned v) ∧ ∃ C', Tn C w X ∧ (∀ b, C' b → C b ∨ w.heap.size ≤ b) ∧ J D.length C' X) := HQ2.out X hc
  clear hP hc hth HE HQ2
  go_wp2
  refine bodyPost_end (results_none rfl _ _ _) rfl ?_
  exact HX.out

end Go.Proofs.Ytafpfelgngniiaa
