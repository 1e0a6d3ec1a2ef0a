/- What a value is as numbers: the program's numbers. -/
import Derived.Test.YtoabgmpcdnikeaaGreatDoorVi
import Derived.Test.YtoabgmpcdnikeaaGreatDoorApp
import Derived.Laws.MakeOwn
namespace Go.Proofs.YtoabgmpcdnikeaaGreatDoor
open Go.RowKit
set_option linter.unusedVariables false

/-- A row of numbers, cell by cell. -/
def nsA (n : Nat) (f : Nat → Nm) : Array Value := Array.ofFn (n := n * 2) fun j => if j.val % 2 = 0 then .int .i64 (f (j.val / 2)).1 else .bool (f (j.val / 2)).2
theorem nsA_fst {n i : Nat} (f : Nat → Nm) (h : i < n) : (nsA n f)[i * 2]? = some (.int .i64 (f i).1) := by
  have h1 : i * 2 < n * 2 := by omega
  have h2 : i * 2 / 2 = i := by omega
  simp [nsA, h1, h2]
theorem nsA_snd {n i : Nat} (f : Nat → Nm) (h : i < n) : (nsA n f)[i * 2 + 1]? = some (.bool (f i).2) := by
  have h1 : i * 2 + 1 < n * 2 := by omega
  have h2 : (i * 2 + 1) / 2 = i := by omega
  have h3 : (i * 2 + 1) % 2 = 1 := by omega
  simp [nsA, h1, h2, h3]
theorem nsA_set {n i : Nat} {f g : Nat → Nm} (hi : ∀ j, j ≠ i → g j = f j) : ((nsA n f).setIfInBounds (i * 2) (.int .i64 (g i).1)).setIfInBounds (i * 2 + 1) (.bool (g i).2) = nsA n g := by
  apply Array.ext
  · simp [nsA]
  · intro j h1 h2
    have h3 : j < (nsA n f).size := by simpa [nsA] using h2
    have h4 : j < n * 2 := by simpa [nsA] using h2
    rw [Array.getElem_setIfInBounds (by simpa using h3), Array.getElem_setIfInBounds h3]
    by_cases e1 : i * 2 + 1 = j
    · subst e1
      have a1 : (i * 2 + 1) % 2 = 1 := by omega
      have a2 : (i * 2 + 1) / 2 = i := by omega
      simp [nsA, a1, a2]
    · rw [if_neg e1]
      by_cases e2 : i * 2 = j
      · subst e2
        have a2 : i * 2 / 2 = i := by omega
        simp [nsA, a2]
      · rw [if_neg e2]
        simp [nsA, hi (j / 2) (by omega)]
theorem made_ns (n : Nat) : madeCells (Value.agg #[.int .i64 0, .bool false]).cells (n * 2) = nsA n (fun _ => (0, false)) := by
  apply Array.ext
  · simp [madeCells, nsA]
  · intro j h1 h2
    rcases Nat.mod_two_eq_zero_or_one j with h | h
    · simp [madeCells, nsA, Value.cells, h]
    · simp [madeCells, nsA, Value.cells, h]
theorem info78 : InfoOf Tryz.prog 78 (.agg #[.int .i64 0, .bool false]) 2 16 := by unfold InfoOf; kernel_rfl
theorem make_ns (W : World) (n : Nat) (hn : n ≤ 4194304) : (Instr.makeSlice 122 (.int .i64 (n : Int)) (.int .i64 (n : Int))).run Tryz.prog W = .ok (.slice (some ⟨W.heap.size, 0, none⟩) n n) (W.alloc (.cells (nsA n (fun _ => (0, false))) 78)) := by
  obtain ⟨i0, hi0, hz0, hz1, hz2⟩ := info78.parts
  have := run_makeSlice (P := Tryz.prog) (w := W) 122 78 i0 (.agg #[.int .i64 0, .bool false]) Tryz.underlying122 hi0 hz0 .i64 .i64 (n : Int) (n : Int) (by omega) (by omega) (by rw [hz1]; omega) (by rw [hz2]; omega) (by omega)
  rw [this, hz1]
  have e : ((n : Int)).toNat = n := by omega
  rw [e, made_ns]

/-- What answers a list of numbers leaves. -/
def NP (w : World) (N : List Nm) (e : Ending) (w' : World) : Prop := ∃ a c, e = .returned (.slice a N.length c) ∧ NsAt w' a N ∧ Below w.heap.size w w' ∧ ∀ ad, a = some ad → w.heap.size ≤ ad.block
theorem NP.of {w w' : World} {B n : Nat} {f : Nat → Nm} {N : List Nm} (hB : w.heap.size ≤ B) (hb : Below w.heap.size w w') (hx : IsCells w' B (nsA n f)) (hn : N.length = n) (hf : ∀ i x, N[i]? = some x → f i = x) : NP w N (.returned (.slice (some ⟨B, 0, none⟩) n n)) w' := by
  subst hn
  refine ⟨_, _, rfl, fun i x hi => ?_, hb, fun ad h => by cases h; exact hB⟩
  have hlt := (List.getElem?_eq_some_iff.1 hi).1
  refine ⟨B, 0, rfl, hx.lt, ?_, ?_⟩
  · have := hx.cell (i * 2)
    rw [nsA_fst f hlt, hf i x hi] at this
    simpa using this
  · have := hx.cell (i * 2 + 1)
    rw [nsA_snd f hlt, hf i x hi] at this
    simpa using this

/-- The numbers of a value's texts, up to a place. -/
def rdUp (L : List ByteArray) (i : Nat) : Nat → Nm := fun j => if j < i then rdN (Tx (L.getD j ⟨#[]⟩)) else (0, false)

set_option maxRecDepth 100000 in
set_option maxHeartbeats 4000000 in
theorem numbers_any (w : World) (G : Gl w) {k n : Int} {b no : Bool} {t : ByteArray} {a : Option Addr} {c : Nat} {L : List ByteArray} (h : VOk w ⟨k, b, n, no, t, L⟩ a) (hL : k = 4 → L.length ≤ 4194304) :
    Calls Tryz.prog 74 #[.agg #[.int .i64 k, .bool b, .int .i64 n, .bool no, .string t, .slice a L.length c]] w (NP w (Vl.nums ⟨k, b, n, no, t, L⟩)) := by
  obtain ⟨W, hW⟩ : ∃ W, (w.alloc (.cells #[.int .i64 k, .bool b, .int .i64 n, .bool no, .string t, .slice a L.length c] 24)) = W := ⟨_, rfl⟩
  have hbW : Below w.heap.size w W := by rw [← hW]; exact (Below.refl _ _).alloc (Nat.le_refl _) _
  have hx : IsCells W w.heap.size #[.int .i64 k, .bool b, .int .i64 n, .bool no, .string t, .slice a L.length c] := by rw [← hW]; exact isCells_new _ _ _
  have hsW : W.heap.size = w.heap.size + 1 := by rw [← hW]; simp
  have HW : Hid ((w.alloc (.cells #[.int .i64 k, .bool b, .int .i64 n, .bool no, .string t, .slice a L.length c] 24)) = W ∧ Below w.heap.size w W ∧ IsCells W w.heap.size #[.int .i64 k, .bool b, .int .i64 n, .bool no, .string t, .slice a L.length c] ∧ Gl w ∧ VOk w ⟨k, b, n, no, t, L⟩ a ∧ W.heap.size = w.heap.size + 1) := ⟨hW, hbW, hx, G, h, hsW⟩
  have x0 : W.cell? ⟨w.heap.size, 0, none⟩ = some (.int .i64 k) := hx.cell 0
  have x1 : W.cell? ⟨w.heap.size, 1, none⟩ = some (.bool b) := hx.cell 1
  have x2 : W.cell? ⟨w.heap.size, 2, none⟩ = some (.int .i64 n) := hx.cell 2
  have x3 : W.cell? ⟨w.heap.size, 3, none⟩ = some (.bool no) := hx.cell 3
  have x4 : W.cell? ⟨w.heap.size, 4, none⟩ = some (.string t) := hx.cell 4
  have x5 : W.cell? ⟨w.heap.size, 5, none⟩ = some (.slice a L.length c) := hx.cell 5
  clear h hx hbW hW G hsW
  by_cases h4 : k = 4
  · replace hL := hL h4
    subst h4
    have HN : Hid (Vl.nums ⟨4, b, n, no, t, L⟩ = L.map (fun s => rdN (Tx s))) := by show _ = _; simp [Vl.nums]
    rw [HN.out]
    obtain ⟨W2, hW2⟩ : ∃ W2, (W.alloc (.cells (nsA L.length (fun _ => (0, false))) 78)) = W2 := ⟨_, rfl⟩
    have hmk : (Instr.makeSlice 122 (.int .i64 (L.length : Int)) (.int .i64 (L.length : Int))).run Tryz.prog (w.alloc (.cells #[.int .i64 4, .bool b, .int .i64 n, .bool no, .string t, .slice a L.length c] 24)) = .ok (.slice (some ⟨w.heap.size + 1, 0, none⟩) L.length L.length) W2 := by
      rw [HW.out.1, make_ns W L.length hL, HW.out.2.2.2.2.2, hW2]
    have hb2 : Below W.heap.size W W2 := by rw [← hW2]; exact (Below.refl _ _).alloc (Nat.le_refl _) _
    have HR : Hid (IsCells W2 (w.heap.size + 1) (nsA L.length (rdUp L 0))) := by
      show IsCells _ _ _
      rw [← HW.out.2.2.2.2.2]
      have e : rdUp L 0 = fun _ => (0, false) := by funext j; simp [rdUp]
      rw [e, ← hW2]
      exact isCells_new _ _ _
    have HX2 : Hid (Below w.heap.size w W2) := HW.out.2.1.trans (hb2.mono HW.out.2.1.size)
    have hwl : w.heap.size < W.heap.size := HW.out.2.2.1.lt
    have y5 : W2.cell? ⟨w.heap.size, 5, none⟩ = some (.slice a L.length c) := (hb2.cell (p := ⟨w.heap.size, 5, none⟩) hwl).trans x5
    clear hW2 hb2 HN x1 x2 x3 x4
    go_enter Tryz.func74, Tryz.ntmps74
    go_wp2
    go_loopw [4, 5, 19] (fun _ _ u wr => ∃ i : Nat, i ≤ L.length ∧ u = .int .i64 (i : Int) ∧ Hid (Below w.heap.size w wr ∧ IsCells wr (w.heap.size + 1) (nsA L.length (rdUp L i)))) (fun _ _ u _ => L.length - (intOf u).toNat)
    case atStart => exact ⟨0, by omega, rfl, HX2.out, HR.out⟩
    case round =>
      obtain ⟨i, hi, rfl, HS⟩ := hrel
      by_cases hlt : i < L.length
      · have hltz : (i : Int) < (L.length : Int) := by omega
        obtain ⟨s, hs⟩ : ∃ s, L[i]? = some s := ⟨_, List.getElem?_eq_getElem hlt⟩
        obtain ⟨b1, o1, rfl, hb1, hcell⟩ := (HW.out.2.2.2.2.1.bel HS.out.1).at_ i s hs
        have hr := read_any wr (HW.out.2.2.2.1.bel HS.out.1) s (HW.out.2.2.2.2.1.ls s (List.mem_of_getElem? hs))
        have HG : Hid (∀ j, j ≠ i → rdUp L (i + 1) j = rdUp L i j) := fun j hj => by
          unfold rdUp
          by_cases e : j < i
          · rw [if_pos e, if_pos (by omega)]
          · rw [if_neg e, if_neg (by omega)]
        have HE : Hid (rdUp L (i + 1) i = rdN (Tx s)) := by show _ = _; simp [rdUp, hs]
        obtain ⟨zn, zb, HZ⟩ : ∃ zn zb, Hid (rdN (Tx s) = (zn, zb)) := ⟨_, _, rfl⟩
        rw [HZ.out] at hr
        clear hs
        go_wp2_with fail
        with_reducible refine hr.mono ?_
        rintro e w3 ⟨rfl, hb3⟩
        have HK : Hid (Below w.heap.size w w3 ∧ IsCells w3 (w.heap.size + 1) (nsA L.length (rdUp L i))) := ⟨HS.out.1.trans (hb3.mono HS.out.1.size), HS.out.2.of_block (hb3.block _ HS.out.2.lt)⟩
        have c0 := HK.out.2.cell (i * 2)
        have c1 := HK.out.2.cell (i * 2 + 1)
        rw [nsA_fst _ hlt] at c0
        rw [nsA_snd _ hlt] at c1
        have f0 := HK.out.2.frozen (i * 2)
        have f1 := HK.out.2.frozen (i * 2 + 1)
        generalize (rdUp L i i).1 = q1 at c0
        generalize (rdUp L i i).2 = q2 at c1
        clear hb3 hr
        go_wp2
        go_roundw
        case rel =>
          refine ⟨i + 1, by omega, by go_num, (HK.out.1.setCell (p := ⟨w.heap.size + 1, i * 2, none⟩) (Nat.le_succ _) _).setCell (p := ⟨w.heap.size + 1, i * 2 + 1, none⟩) (Nat.le_succ _) _, ?_⟩
          have h1 := (HK.out.2.set (i * 2) (.int .i64 zn)).set (i * 2 + 1) (.bool zb)
          have h2 := nsA_set (n := L.length) (i := i) HG.out
          rw [HE.out, HZ.out] at h2
          rw [h2] at h1
          exact h1
        case measure => simp [intOf]; omega
      · have hltz : ¬ (i : Int) < (L.length : Int) := by omega
        have hil : i = L.length := by omega
        have HF : Hid (NP w (L.map fun s => rdN (Tx s)) (.returned (.slice (some ⟨w.heap.size + 1, 0, none⟩) L.length L.length)) wr) := NP.of (Nat.le_succ _) HS.out.1 HS.out.2 (by simp) (fun j x hj => by
          rw [List.getElem?_map] at hj
          cases hs : L[j]? with
          | none => rw [hs] at hj; cases hj
          | some s =>
            rw [hs] at hj
            have hlt2 := (List.getElem?_eq_some_iff.1 hs).1
            simp only [Option.map_some, Option.some.injEq] at hj
            have e1 : L.getD j ⟨#[]⟩ = s := by rw [List.getD_eq_getElem?_getD, hs]; rfl
            unfold rdUp
            rw [if_pos (by omega), e1, hj])
        clear hil
        go_wp2
        go_ret
        exact HF.out
  · clear hL
    have q4 : (k == 4) = false := by simpa using h4
    have q5 : (k != 4) = true := by simpa using h4
    have HN : Hid (Vl.nums ⟨k, b, n, no, t, L⟩ = [nmV k b n no t L]) := by show _ = _; simp [Vl.nums, Vl.nm, h4]
    have hc := asnum_any W (c := c) (HW.out.2.2.2.1.bel HW.out.2.1) (HW.out.2.2.2.2.1.bel HW.out.2.1)
    rw [HN.out]
    obtain ⟨zn, zb, HT⟩ : ∃ zn zb, Hid (nmV k b n no t L = (zn, zb)) := ⟨_, _, rfl⟩
    rw [HT.out] at hc ⊢
    clear h4 HN
    go_enter Tryz.func74, Tryz.ntmps74
    go_wp2_with fail
    rw [HW.out.1]
    go_wp2_with fail
    with_reducible refine hc.mono ?_
    rintro e w1 ⟨rfl, hb⟩
    have HB : Hid (Below w.heap.size w w1) := HW.out.2.1.trans (hb.mono HW.out.2.1.size)
    clear hb
    go_wp2
    go_ret
    refine ⟨_, _, rfl, fun i x hi => ?_, HB.out.alloc HB.out.size _, fun ad h => by cases h; exact HB.out.size⟩
    have : i = 0 := by
      have := (List.getElem?_eq_some_iff.1 hi).1
      simpa using this
    subst this
    simp at hi
    subst hi
    exact ⟨_, _, rfl, (isCells_new w1 _ 78).lt, by simp, by simp⟩

end Go.Proofs.YtoabgmpcdnikeaaGreatDoor
