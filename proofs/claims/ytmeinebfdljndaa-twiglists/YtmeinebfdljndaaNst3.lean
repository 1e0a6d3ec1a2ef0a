/- nest, rises, joinable: whether two lists can be joined. -/
import Derived.Test.YtmeinebfdljndaaNst2
import Derived.Laws.EntriesVeiled
namespace Go.Proofs.Ytmeinebfdljndaa
open Go.RowKit
set_option linter.unusedVariables false

theorem nest_start {w W5 : World} {A D : List Pl} {a d : Option Addr} {ca cd : Nat} (hA : PlsAt w w.heap.size a A) (hD : PlsAt w w.heap.size d D)
    (h5 : ((((w.alloc (.cells #[.slice a A.length ca] 25)).alloc (.cells #[.slice d D.length cd] 25)).alloc (.cells #[.slice none 0 0] 90)).alloc (.cells #[.bool true] 4)).alloc (.cells #[.func (.func 121) #[] #[.pointer (some ⟨w.heap.size + 2, 0, none⟩), .pointer (some ⟨w.heap.size + 3, 0, none⟩)]] 168) = W5) :
    Tn (fun _ => False) w W5 ∧ NeI w.heap.size w.heap.size A D a d ca cd 0 0 (fun b => (b = w.heap.size + 2 ∨ b = w.heap.size + 3 ∨ (Value.slice none 0 0).ownBlock = some b) ∨ b = w.heap.size ∨ b = w.heap.size + 1 ∨ b = w.heap.size + 4) W5 := by
  have n := fun (w : World) (o : Obj) => (Tn.refl (fun _ => False) w).alloc o
  have y0 := isCells_new w #[.slice a A.length ca] 25
  have y1 := isCells_new (w.alloc (.cells #[.slice a A.length ca] 25)) #[.slice d D.length cd] 25
  have y2 := isCells_new ((w.alloc (.cells #[.slice a A.length ca] 25)).alloc (.cells #[.slice d D.length cd] 25)) #[.slice none 0 0] 90
  have y3 := isCells_new (((w.alloc (.cells #[.slice a A.length ca] 25)).alloc (.cells #[.slice d D.length cd] 25)).alloc (.cells #[.slice none 0 0] 90)) #[.bool true] 4
  have y4 := isCells_new ((((w.alloc (.cells #[.slice a A.length ca] 25)).alloc (.cells #[.slice d D.length cd] 25)).alloc (.cells #[.slice none 0 0] 90)).alloc (.cells #[.bool true] 4)) #[.func (.func 121) #[] #[.pointer (some ⟨w.heap.size + 2, 0, none⟩), .pointer (some ⟨w.heap.size + 3, 0, none⟩)]] 168
  have z0 := (((y0.alloc (.cells #[.slice d D.length cd] 25)).alloc (.cells #[.slice none 0 0] 90)).alloc (.cells #[.bool true] 4)).alloc (.cells #[.func (.func 121) #[] #[.pointer (some ⟨w.heap.size + 2, 0, none⟩), .pointer (some ⟨w.heap.size + 3, 0, none⟩)]] 168)
  have z1 := ((y1.alloc (.cells #[.slice none 0 0] 90)).alloc (.cells #[.bool true] 4)).alloc (.cells #[.func (.func 121) #[] #[.pointer (some ⟨w.heap.size + 2, 0, none⟩), .pointer (some ⟨w.heap.size + 3, 0, none⟩)]] 168)
  have z2 := (y2.alloc (.cells #[.bool true] 4)).alloc (.cells #[.func (.func 121) #[] #[.pointer (some ⟨w.heap.size + 2, 0, none⟩), .pointer (some ⟨w.heap.size + 3, 0, none⟩)]] 168)
  have z3 := y3.alloc (.cells #[.func (.func 121) #[] #[.pointer (some ⟨w.heap.size + 2, 0, none⟩), .pointer (some ⟨w.heap.size + 3, 0, none⟩)]] 168)
  have tW : Tn (fun _ => False) w W5 := by rw [← h5]; exact ((((n _ _).alloc _).alloc _).alloc _).alloc _
  rw [h5] at z0 z1 z2 z3 y4
  simp only [World.size_alloc, Nat.add_assoc, Nat.reduceAdd] at z0 z1 z2 z3 y4
  have hs := y4.lt
  have hb : Below w.heap.size w W5 := tW.below (Nat.le_refl _) (fun _ h => h.elim)
  exact ⟨tW, [], _, rfl, ⟨none, 0, rfl, z2, z3, ⟨rfl, .inl ⟨rfl, rfl⟩⟩, by omega, by omega, by omega, by omega⟩, by simp, rfl, z0, z1, y4, hA.below hb (Nat.le_refl _), hD.below hb (Nat.le_refl _), Nat.le_refl _⟩
theorem nest_end {w W5 X : World} {A D : List Pl} {a d : Option Addr} {ca cd : Nat} {C : Nat → Prop} (hw : Tn (fun _ => False) w W5) (hC : ∀ b, C b → w.heap.size ≤ b) (h : ThS (NeI w.heap.size w.heap.size A D a d ca cd) A.length D.length C W5 X) : IsCells X (w.heap.size + 3) #[.bool ((mgP (sps A) (sps D)).foldl come ([], true)).2] ∧ Below w.heap.size w X := by
  obtain ⟨C', t, -, P, C2, -, h1, h2, -⟩ := h
  rw [List.drop_eq_nil_of_le (by simp [sps]), List.drop_eq_nil_of_le (by simp [sps]), mgP_nil, List.append_nil] at h2
  subst h2
  obtain ⟨_, _, -, -, h3, -⟩ := h1
  exact ⟨h3, (hw.below (Nat.le_refl _) (fun _ h => h.elim)).trans (t.below hw.size hC)⟩

set_option maxRecDepth 100000 in
set_option maxHeartbeats 1000000 in
theorem nest_any (w : World) {A D : List Pl} {a d : Option Addr} {ca cd : Nat} (hA : PlsAt w w.heap.size a A) (hD : PlsAt w w.heap.size d D) (lA : A.length ≤ 8192) (lD : D.length ≤ 8192) (y : Bool) (hy : ((mgP (sps A) (sps D)).foldl come ([], true)).2 = y) :
    Calls Try.prog 110 #[.slice a A.length ca, .slice d D.length cd] w fun e w' => e = .returned (.bool y) ∧ Below w.heap.size w w' := by
  obtain ⟨W5, hW5⟩ : ∃ W5, ((((w.alloc (.cells #[.slice a A.length ca] 25)).alloc (.cells #[.slice d D.length cd] 25)).alloc (.cells #[.slice none 0 0] 90)).alloc (.cells #[.bool true] 4)).alloc (.cells #[.func (.func 121) #[] #[.pointer (some ⟨w.heap.size + 2, 0, none⟩), .pointer (some ⟨w.heap.size + 3, 0, none⟩)]] 168) = W5 := ⟨_, rfl⟩
  have HW5 : Hid (((((w.alloc (.cells #[.slice a A.length ca] 25)).alloc (.cells #[.slice d D.length cd] 25)).alloc (.cells #[.slice none 0 0] 90)).alloc (.cells #[.bool true] 4)).alloc (.cells #[.func (.func 121) #[] #[.pointer (some ⟨w.heap.size + 2, 0, none⟩), .pointer (some ⟨w.heap.size + 3, 0, none⟩)]] 168) = W5) := hW5
  obtain ⟨tW, hI⟩ := nest_start hA hD hW5
  have hC : ∀ b, ((b = w.heap.size + 2 ∨ b = w.heap.size + 3 ∨ (Value.slice none 0 0).ownBlock = some b) ∨ b = w.heap.size ∨ b = w.heap.size + 1 ∨ b = w.heap.size + 4) → w.heap.size ≤ b := by
    rintro b ((rfl | rfl | h) | rfl | rfl | rfl)
    · omega
    · omega
    · cases h
    · omega
    · omega
    · omega
  have hbl : Below w.heap.size w W5 := tW.below (Nat.le_refl _) (fun _ h => h.elim)
  have hth := through_any (NeI.ok w.heap.size w.heap.size A D a d ca cd) (ca := ca) (cd := cd) (gf := 122) (hf := 123) (lb := #[.pointer (some ⟨w.heap.size + 4, 0, none⟩), .pointer (some ⟨w.heap.size, 0, none⟩)]) (hb := #[.pointer (some ⟨w.heap.size + 4, 0, none⟩), .pointer (some ⟨w.heap.size + 1, 0, none⟩)]) (fun _ _ => by kernel_rfl) (fun _ _ => by kernel_rfl) W5 _ hI (hA.below hbl (Nat.le_refl _)) (hD.below hbl (Nat.le_refl _)) lA lD (fun k i C X x hx hy h => nouter_any lA lD k i C X x hx hy h) (fun k i C X x hx hy h => ninner_any lA lD k i C X x hx hy h)
  have HE : Hid (∀ e X, ThP (NeI w.heap.size w.heap.size A D a d ca cd) A.length D.length (fun b => (b = w.heap.size + 2 ∨ b = w.heap.size + 3 ∨ (Value.slice none 0 0).ownBlock = some b) ∨ b = w.heap.size ∨ b = w.heap.size + 1 ∨ b = w.heap.size + 4) W5 e X → (∃ v, e = .returned v) ∧ IsCells X (w.heap.size + 3) #[.bool y] ∧ Below w.heap.size w X) := by
    intro e X h
    have := nest_end tW hC h.2
    rw [hy] at this
    exact ⟨h.1, this⟩
  generalize ThP (NeI w.heap.size w.heap.size A D a d ca cd) A.length D.length (fun b => (b = w.heap.size + 2 ∨ b = w.heap.size + 3 ∨ (Value.slice none 0 0).ownBlock = some b) ∨ b = w.heap.size ∨ b = w.heap.size + 1 ∨ b = w.heap.size + 4) W5 = Q at hth HE
  clear hW5 tW hI hC hbl hA hD hy
  go_enter Try.func110, Try.ntmps110
  go_wp2_with fail
  simp only [Nat.add_assoc, Nat.reduceAdd]
  rw [HW5.out]
  with_reducible refine hth.mono ?_
  intro e X hP
  obtain ⟨⟨v, rfl⟩, hc, hb⟩ := HE.out e X hP
  have c3 : X.cell? ⟨w.heap.size + 3, 0, none⟩ = some (.bool y) := hc.cell 0
  have l3 := hc.lt
  have HB : Hid (Below w.heap.size w X) := hb
  clear hP hc hb hth
  go_wp2
  go_ret
  exact ⟨rfl, HB.out⟩

end Go.Proofs.Ytmeinebfdljndaa
