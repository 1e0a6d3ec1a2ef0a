/- Lists of texts, whether they share one: the program's share and someTexts. -/
import Derived.Test.YtoabgmpcdnikeaaGreatDoorVl
namespace Go.Proofs.YtoabgmpcdnikeaaGreatDoor
open Go.RowKit Go.Maps
set_option linter.unusedVariables false

theorem share1_any (W : World) (B m N : Nat) (A : List ByteArray) (x : ByteArray) (hx : x.size ≤ maxLen) (hc : W.cell? ⟨B, 0, none⟩ = some (.map (some m))) (hS : SetAt W m A N) : Calls Tryz.prog 144 #[.string x, .pointer (some ⟨B, 0, none⟩)] W fun e w' => e = .returned (.bool (A.any fun y => decide (y = x))) ∧ Below W.heap.size W w' := by
  have hl := hS.look hx
  generalize (A.any fun y => decide (y = x)) = z at *
  clear hS
  go_enter Tryz.func144, Tryz.ntmps144
  go_wp2
  go_ret
  exact ⟨rfl, (Below.refl _ _).alloc (Nat.le_refl _) _⟩

set_option maxRecDepth 100000 in
set_option maxHeartbeats 4000000 in
theorem share_any (w : World) {a b : Option Addr} {ca cb : Nat} {A B : List ByteArray} (hA : SsAt w a A) (hB : SsAt w b B) (la : A.length ≤ 4611686018427387904) (lb : B.length ≤ 4611686018427387904) (sa : ∀ s ∈ A, s.size ≤ maxLen) (sb : ∀ s ∈ B, s.size ≤ maxLen) :
    Calls Tryz.prog 110 #[.slice a A.length ca, .slice b B.length cb] w fun e w' => e = .returned (.bool (B.any fun s => A.any fun x => decide (x = s))) ∧ Below w.heap.size w w' := by
  obtain ⟨R, HR⟩ : ∃ R, Hid ((B.any fun s => A.any fun x => decide (x = s)) = R) := ⟨_, rfl⟩
  rw [HR.out]
  have hmm : ∀ u : World, (Instr.makeMap 184 (some (.int .i64 (A.length : Int)))).run Tryz.prog u = .ok (.map (some u.heap.size)) (u.alloc (.map #[] 0)) := fun u => rfl
  have HH : Hid (SsAt w a A ∧ SsAt w b B ∧ (∀ s ∈ A, s.size ≤ maxLen) ∧ (∀ s ∈ B, s.size ≤ maxLen)) := ⟨hA, hB, sa, sb⟩
  obtain ⟨W, hW⟩ : ∃ W, ((w.alloc (.map #[] 0)).alloc (.cells #[.map (some w.heap.size)] 184)) = W := ⟨_, rfl⟩
  have hbW : Below w.heap.size w W := by rw [← hW]; exact ((Below.refl _ _).alloc (Nat.le_refl _) _).alloc (by simp) _
  have hx : IsCells W (w.heap.size + 1) #[.map (some w.heap.size)] := by
    have := isCells_new (w.alloc (.map #[] 0)) #[.map (some w.heap.size)] 184
    rw [hW] at this
    simpa using this
  have hs : SetAt W w.heap.size [] 0 := by
    rw [← hW]
    exact (SetAt.made w).of_block (Below.heap_alloc _ _ _ (by simp))
  have HW : Hid (((w.alloc (.map #[] 0)).alloc (.cells #[.map (some w.heap.size)] 184)) = W ∧ Below w.heap.size w W ∧ IsCells W (w.heap.size + 1) #[.map (some w.heap.size)] ∧ SetAt W w.heap.size [] 0) := ⟨hW, hbW, hx, hs⟩
  clear hA hB sa sb hW hbW hx hs
  go_enter Tryz.func110, Tryz.ntmps110
  go_wp2
  rw [HW.out.1]
  go_loopw [7, 13] (fun _ u wr => ∃ i : Nat, i ≤ A.length ∧ u = .int .i64 (i : Int) ∧ Hid (Below w.heap.size w wr ∧ IsCells wr (w.heap.size + 1) #[.map (some w.heap.size)] ∧ SetAt wr w.heap.size (A.take i) i)) (fun _ u _ => A.length - (intOf u).toNat)
  case atStart => exact ⟨0, by omega, rfl, HW.out.2.1, HW.out.2.2.1, HW.out.2.2.2⟩
  case round =>
    obtain ⟨i, hi, rfl, HS⟩ := hrel
    by_cases hlt : i < A.length
    · have hltz : (i : Int) < (A.length : Int) := by omega
      obtain ⟨s, hs⟩ : ∃ s, A[i]? = some s := ⟨_, List.getElem?_eq_getElem hlt⟩
      obtain ⟨b1, o1, rfl, hb1, hcell⟩ := (HH.out.1.bel HS.out.1) i s hs
      obtain ⟨w3, hr, h3, h4⟩ := HS.out.2.2.store (by unfold maxLen; omega) (HH.out.2.2.1 s (List.mem_of_getElem? hs))
      have x0 : wr.cell? ⟨w.heap.size + 1, 0, none⟩ = some (.map (some w.heap.size)) := HS.out.2.1.cell 0
      have HK : Hid (Below w.heap.size w w3 ∧ IsCells w3 (w.heap.size + 1) #[.map (some w.heap.size)] ∧ SetAt w3 w.heap.size (A.take (i + 1)) (i + 1)) := ⟨HS.out.1.grown h4 HS.out.1.size (fun k hk => by cases hk; exact Nat.le_refl _), HS.out.2.1.of_block (h4.block _ HS.out.2.1.lt (by simp)), by rw [List.take_add_one, hs]; exact h3⟩
      clear h3 h4 hs
      go_wp2
      go_roundw
      case rel => exact ⟨i + 1, by omega, by go_num, HK⟩
      case measure => simp [intOf]; omega
    · have hltz : ¬ (i : Int) < (A.length : Int) := by omega
      have hset : SetAt wr w.heap.size A i := by
        have := HS.out.2.2
        rw [List.take_of_length_le (by omega)] at this
        exact this
      have hc := contains_any wr (c := cb) (HH.out.2.1.bel HS.out.1) lb 144 #[.pointer (some ⟨w.heap.size + 1, 0, none⟩)] (fun s => A.any fun x => decide (x = s)) enters144 (fun V x hx hV => share1_any V (w.heap.size + 1) w.heap.size i A x (HH.out.2.2.2 x hx) ((hV.cell (p := ⟨w.heap.size + 1, 0, none⟩) HS.out.2.1.lt).trans (HS.out.2.1.cell 0)) (hset.of_block (hV.block _ hset.lt)))
      rw [HR.out] at hc
      clear hset
      go_wp2_with fail
      with_reducible refine hc.mono ?_
      rintro e w' ⟨rfl, hb⟩
      have HB : Hid (Below w.heap.size w w') := HS.out.1.trans (hb.mono HS.out.1.size)
      clear hb
      go_wp2
      go_ret
      exact ⟨rfl, HB.out⟩


set_option maxRecDepth 100000 in
theorem sometexts_any (w : World) (op : ByteArray) (ho : IsOp op) (hno : ordB op = false) {a b : Option Addr} {ca cb : Nat} {A B : List ByteArray} (hA : SsAt w a A) (hB : SsAt w b B) (la : A.length ≤ 4611686018427387904) (lb : B.length ≤ 4611686018427387904) (sa : ∀ s ∈ A, s.size ≤ maxLen) (sb : ∀ s ∈ B, s.size ≤ maxLen) :
    Calls Tryz.prog 75 #[.string op, .slice a A.length ca, .slice b B.length cb] w fun e w' => e = .returned (.bool (anyT op A B)) ∧ Below w.heap.size w w' := by
  cases A with
  | nil =>
    rw [show anyT op [] B = false from by simp [anyT]]
    clear hA hB sa sb
    rcases ho with rfl | rfl | rfl | rfl | rfl | rfl <;> (go_enter Tryz.func75, Tryz.ntmps75; go_wp2; go_ret; exact ⟨rfl, Below.refl _ _⟩)
  | cons x r =>
    cases B with
    | nil =>
      rw [show anyT op (x :: r) [] = false from by simp [anyT]]
      have l1 : (((x :: r).length : Int) == 0) = false := by rw [beq_eq_false_iff_ne]; simp only [List.length_cons]; omega
      have l2 : ((x :: r).length == 0) = false := by simp
      generalize (x :: r).length = m at *
      clear hA hB sa sb
      rcases ho with rfl | rfl | rfl | rfl | rfl | rfl <;> (go_enter Tryz.func75, Tryz.ntmps75; go_wp2; go_ret; exact ⟨rfl, Below.refl _ _⟩)
    | cons y q =>
      have hs := share_any w (ca := ca) (cb := cb) hA hB la lb sa sb
      have hd1 := differ_any w (c := ca) hA la y _ rfl
      have hd2 := fun (u : World) (hu : Below w.heap.size w u) => differ_any u (c := cb) (hB.bel hu) lb x _ rfl
      obtain ⟨b1, o1, rfl, hb1, x0⟩ := hA 0 x rfl
      obtain ⟨b2, o2, rfl, hb2, y0⟩ := hB 0 y rfl
      simp only [Nat.add_zero] at x0 y0
      have l1 : (((x :: r).length : Int) == 0) = false := by rw [beq_eq_false_iff_ne]; simp only [List.length_cons]; omega
      have l2 : ((x :: r).length == 0) = false := by simp
      have l3 : (((y :: q).length : Int) == 0) = false := by rw [beq_eq_false_iff_ne]; simp only [List.length_cons]; omega
      have l4 : ((y :: q).length == 0) = false := by simp
      have l5 : (0 : Int) < ((x :: r).length : Int) := by simp only [List.length_cons]; omega
      have l6 : (0 : Int) < ((y :: q).length : Int) := by simp only [List.length_cons]; omega
      have l7 : 0 < (x :: r).length := by simp
      have l8 : 0 < (y :: q).length := by simp
      have HD : Hid (∀ (u : World), Below w.heap.size w u → Calls Tryz.prog 111 #[.slice (some ⟨b2, o2, none⟩) (y :: q).length cb, .string x] u fun e w' => e = .returned (.bool ((y :: q).any fun s => decide (s ≠ x))) ∧ Below u.heap.size u w') := hd2
      have hZ : op = ⟨#[61]⟩ ∨ op = ⟨#[33, 61]⟩ := by
        rcases ho with rfl | rfl | rfl | rfl | rfl | rfl <;> first | exact .inl rfl | exact .inr rfl | cases hno
      have HX : Hid (w.cell? ⟨b1, o1, none⟩ = some (.string x) ∧ b1 < w.heap.size) := ⟨x0, hb1⟩
      clear hd2 hA hB sa sb ho hno
      rcases hZ with rfl | rfl
      · rw [show anyT ⟨#[61]⟩ (x :: r) (y :: q) = ((y :: q).any fun s => (x :: r).any fun z => decide (z = s)) from by simp only [anyT, if_true, List.cons_ne_nil, or_self, if_false]]
        generalize ((y :: q).any fun s => (x :: r).any fun z => decide (z = s)) = z at *
        clear hd1 HD
        generalize (x :: r).length = m at *
        generalize (y :: q).length = m2 at *
        go_enter Tryz.func75, Tryz.ntmps75
        go_wp2_with fail
        with_reducible refine hs.mono ?_
        rintro e w' ⟨rfl, hb⟩
        go_wp2
        go_ret
        exact ⟨rfl, hb⟩
      · rw [show anyT ⟨#[33, 61]⟩ (x :: r) (y :: q) = (((x :: r).any fun s => decide (s ≠ y)) || ((y :: q).any fun s => decide (s ≠ x))) from by unfold anyT; rw [if_neg (by simp), if_neg (by decide)]; rfl]
        generalize ((x :: r).any fun s => decide (s ≠ y)) = z1 at *
        generalize ((y :: q).any fun s => decide (s ≠ x)) = z2 at *
        clear hs
        generalize (x :: r).length = m at *
        generalize (y :: q).length = m2 at *
        cases z1 with
        | true =>
          go_enter Tryz.func75, Tryz.ntmps75
          go_wp2_with fail
          with_reducible refine hd1.mono ?_
          rintro e w' ⟨rfl, hb⟩
          go_wp2
          go_ret
          exact ⟨rfl, hb⟩
        | false =>
          go_enter Tryz.func75, Tryz.ntmps75
          go_wp2_with fail
          with_reducible refine hd1.mono ?_
          rintro e w1 ⟨rfl, hb⟩
          have x1 : w1.cell? ⟨b1, o1, none⟩ = some (.string x) := (hb.cell (p := ⟨b1, o1, none⟩) HX.out.2).trans HX.out.1
          have hd := HD.out w1 hb
          have HB : Hid (Below w.heap.size w w1) := hb
          clear hb x0 y0 hd1
          go_wp2_with fail
          with_reducible refine hd.mono ?_
          rintro e w2 ⟨rfl, hb2⟩
          have HB2 : Hid (Below w.heap.size w w2) := HB.out.trans (hb2.mono HB.out.size)
          clear hb2
          go_wp2
          go_ret
          exact ⟨rfl, HB2.out⟩

end Go.Proofs.YtoabgmpcdnikeaaGreatDoor
