/- Whether one of a list of texts is so; whether a value can be. -/
import Derived.Test.YtoabgmpcdnikeaaGreatDoorVp
import Derived.Deep.LoopGhost
import Derived.Shelf.Abstract
namespace Go.Proofs.YtoabgmpcdnikeaaGreatDoor
open Go.RowKit
set_option linter.unusedVariables false

/-- A function that tells of each text whether it is so, and turns nothing that was there. -/
def PB (w : World) (g : Nat) (lb : Array Value) (p : ByteArray → Bool) (L : List ByteArray) : Prop := ∀ W x, x ∈ L → Below w.heap.size w W → Calls Tryz.prog g (#[.string x] ++ lb) W fun e w' => e = .returned (.bool (p x)) ∧ Below W.heap.size W w'

theorem any_take {α : Type} {p : α → Bool} {L : List α} {i : Nat} {x : α} (h0 : (L.take i).any p = false) (h : L[i]? = some x) : (L.take (i + 1)).any p = p x := by
  rw [List.take_add_one, h, List.any_append, h0]
  simp

set_option maxRecDepth 100000 in
set_option maxHeartbeats 2000000 in
theorem index_any (w : World) {a : Option Addr} {c : Nat} {L : List ByteArray} (hL : SsAt w a L) (hn : L.length ≤ 4611686018427387904) (g : Nat) (lb : Array Value) (p : ByteArray → Bool) (eg : ∀ args w, (callFunc g args).run Tryz.prog w = .ok (.enter g args) w) (hp : PB w g lb p L) (R : Bool) (hR : L.any p = R) :
    Calls Tryz.prog 103 #[.slice a L.length c, .func (.func g) #[] lb] w fun e w' => ∃ k : Int, e = .returned (.int .i64 k) ∧ decide (0 ≤ k) = R ∧ Below w.heap.size w w' := by
  have HL : Hid (SsAt w a L ∧ PB w g lb p L ∧ L.any p = R) := ⟨hL, hp, hR⟩
  clear hL hp hR
  go_enter Tryz.func103, Tryz.ntmps103
  go_wp2
  go_loopg [5, 8] L.length (fun gg _ s8 wr => ∃ kk : Nat, kk ≤ L.length ∧ L.length - kk ≤ gg ∧ s8 = .int .i64 kk ∧ Hid (Below w.heap.size w wr ∧ (L.take kk).any p = false))
  case atStart => exact ⟨0, by omega, by omega, rfl, Below.refl _ _, rfl⟩
  case round =>
    obtain ⟨kk, hkk, hg, rfl, HS⟩ := hrel
    by_cases hlt : kk < L.length
    · have hltz : (kk : Int) < (L.length : Int) := by omega
      obtain ⟨x, hx⟩ : ∃ x, L[kk]? = some x := ⟨_, List.getElem?_eq_getElem hlt⟩
      obtain ⟨b, o, rfl, hb, hcell⟩ := (HL.out.1.bel HS.out.1) kk x hx
      have hcall := HL.out.2.1 wr x (List.mem_of_getElem? hx) HS.out.1
      have HT : Hid ((L.take (kk + 1)).any p = p x) := any_take HS.out.2 hx
      have HY : Hid (p x = true → R = true) := fun h => by rw [← HL.out.2.2, List.any_eq_true]; exact ⟨x, List.mem_of_getElem? hx, h⟩
      clear hx
      generalize p x = q at *
      cases q with
      | true =>
        have HR := HY.out rfl
        subst HR
        go_wp2_with (go_at_fn g; refine hcall.mono ?_; rintro e w' ⟨rfl, hb'⟩)
        go_ret
        exact ⟨_, rfl, by simp, HS.out.1.trans (hb'.mono HS.out.1.size)⟩
      | false =>
        go_wp2_with (go_at_fn g; refine hcall.mono ?_; rintro e w' ⟨rfl, hb'⟩; have HB : Hid (Below w.heap.size w w' ∧ (L.take (kk + 1)).any p = false) := ⟨HS.out.1.trans (hb'.mono HS.out.1.size), HT.out⟩; clear hb')
        go_roundg (L.length - (kk + 1))
        case measure => omega
        case rel => exact ⟨kk + 1, by omega, by omega, by go_num, HB⟩
    · have hltz : ¬ (kk : Int) < (L.length : Int) := by omega
      have hR : R = false := by
        have h1 := HS.out.2
        rw [List.take_of_length_le (by omega), HL.out.2.2] at h1
        exact h1
      subst hR
      go_wp2
      go_ret
      exact ⟨_, rfl, by simp, HS.out.1⟩

theorem contains_any (w : World) {a : Option Addr} {c : Nat} {L : List ByteArray} (hL : SsAt w a L) (hn : L.length ≤ 4611686018427387904) (g : Nat) (lb : Array Value) (p : ByteArray → Bool) (eg : ∀ args w, (callFunc g args).run Tryz.prog w = .ok (.enter g args) w) (hp : PB w g lb p L) :
    Calls Tryz.prog 64 #[.slice a L.length c, .func (.func g) #[] lb] w fun e w' => e = .returned (.bool (L.any p)) ∧ Below w.heap.size w w' := by
  have h := index_any w (c := c) hL hn g lb p eg hp (L.any p) rfl
  generalize L.any p = R at *
  clear hp hL
  go_enter Tryz.func64, Tryz.ntmps64
  go_wp2_with (refine h.mono ?_; rintro e w' ⟨k, rfl, hk, hb⟩; have HK : Hid (decide (0 ≤ k) = R ∧ Below w.heap.size w w') := ⟨hk, hb⟩; clear hk hb)
  go_ret
  exact ⟨congrArg _ (v_bool (by rw [← HK.out.1])), HK.out.2⟩

theorem enters63 : ∀ args w, (callFunc 63 args).run Tryz.prog w = .ok (.enter 63 args) w := enters_of Tryz.func63 (by kernel_rfl) rfl
theorem wrong_pb (w : World) (L : List ByteArray) : PB w 63 #[] (fun s => decide ((tans (Tx s)).2 ≠ 0)) L := fun W x _ _ => wrong_any W x
theorem all_any (L : List ByteArray) : (!L.any fun s => decide ((tans (Tx s)).2 ≠ 0)) = (L.map Tx).all fun s => decide ((tans s).2 = 0) := by
  induction L with
  | nil => rfl
  | cons s r ih =>
    rw [List.any_cons, List.map_cons, List.all_cons, Bool.not_or, ih]
    congr 1
    by_cases h : (tans (Tx s)).2 = 0 <;> simp [h]

set_option maxRecDepth 100000 in
theorem can_any (w : World) (k n : Int) (b no : Bool) (t : ByteArray) {a : Option Addr} {c : Nat} {L : List ByteArray} (hL : SsAt w a L) (hn : L.length ≤ 4611686018427387904) :
    Calls Tryz.prog 34 #[.agg #[.int .i64 k, .bool b, .int .i64 n, .bool no, .string t, .slice a L.length c]] w fun e w' => e = .returned (.bool (canV k (Tx t) (L.map Tx))) ∧ Below w.heap.size w w' := by
  have HL : Hid (SsAt w a L) := hL
  clear hL
  by_cases h1 : k = 1
  · subst h1
    rw [show canV 1 (Tx t) (L.map Tx) = true from rfl]
    go_enter Tryz.func34, Tryz.ntmps34
    go_wp2
    go_ret
    exact ⟨rfl, (Below.refl _ _).alloc (Nat.le_refl _) _⟩
  by_cases h2 : k = 2
  · subst h2
    rw [show canV 2 (Tx t) (L.map Tx) = true from rfl]
    go_enter Tryz.func34, Tryz.ntmps34
    go_wp2
    go_ret
    exact ⟨rfl, (Below.refl _ _).alloc (Nat.le_refl _) _⟩
  by_cases h3 : k = 3
  · subst h3
    have hw := fun u => wrong_any u t
    have HZ : Hid (canV 3 (Tx t) (L.map Tx) = !decide ((tans (Tx t)).2 ≠ 0)) := by show _ = _; simp [canV]
    generalize decide ((tans (Tx t)).2 ≠ 0) = z at *
    generalize canV 3 (Tx t) (L.map Tx) = y at *
    go_enter Tryz.func34, Tryz.ntmps34
    go_wp2_with (refine (hw _).mono ?_; rintro e w' ⟨rfl, hb⟩; have HB : Hid _ := hb; clear hb)
    go_ret
    exact ⟨congrArg _ (v_bool HZ.out.symm), (((Below.refl _ _).alloc (Nat.le_refl _) _)).trans (HB.out.mono (by simp))⟩
  by_cases h4 : k = 4
  · subst h4
    have HZ : Hid (canV 4 (Tx t) (L.map Tx) = (decide (L.length ≤ 4096) && !L.any fun s => decide ((tans (Tx s)).2 ≠ 0))) := by show _ = _; rw [all_any]; simp [canV]
    generalize canV 4 (Tx t) (L.map Tx) = y at *
    by_cases hle : L.length ≤ 4096
    · have hlz : (L.length : Int) ≤ 4096 := by omega
      have hc := fun (u : World) (hu : Below w.heap.size w u) => contains_any u (c := c) (HL.out.bel hu) hn 63 #[] _ enters63 (wrong_pb u L)
      have HC : Hid (∀ (u : World), Below w.heap.size w u → Calls Tryz.prog 64 #[.slice a L.length c, .func (.func 63) #[] #[]] u fun e w' => e = .returned (.bool (L.any fun s => decide ((tans (Tx s)).2 ≠ 0))) ∧ Below u.heap.size u w') := hc
      clear hc
      have HZ2 : Hid (y = !L.any fun s => decide ((tans (Tx s)).2 ≠ 0)) := by show _ = _; rw [HZ.out]; simp [hle]
      generalize (L.any fun s => decide ((tans (Tx s)).2 ≠ 0)) = z at *
      clear HZ
      obtain ⟨W, hW⟩ : ∃ W, (w.alloc (.cells #[.int .i64 4, .bool b, .int .i64 n, .bool no, .string t, .slice a L.length c] 24)) = W := ⟨_, rfl⟩
      have hbW : Below w.heap.size w W := by rw [← hW]; exact (Below.refl _ _).alloc (Nat.le_refl _) _
      have hx : IsCells W w.heap.size #[.int .i64 4, .bool b, .int .i64 n, .bool no, .string t, .slice a L.length c] := by rw [← hW]; exact isCells_new _ _ _
      have x0 : W.cell? ⟨w.heap.size, 0, none⟩ = some (.int .i64 4) := hx.cell 0
      have x5 : W.cell? ⟨w.heap.size, 5, none⟩ = some (.slice a L.length c) := hx.cell 5
      have hc := HC.out W hbW
      have HW : Hid ((w.alloc (.cells #[.int .i64 4, .bool b, .int .i64 n, .bool no, .string t, .slice a L.length c] 24)) = W ∧ Below w.heap.size w W) := ⟨hW, hbW⟩
      clear hW hbW HC hx
      go_enter Tryz.func34, Tryz.ntmps34
      go_wp2_with fail
      rw [HW.out.1]
      with_reducible refine hc.mono ?_
      rintro e w' ⟨rfl, hb⟩
      have HB : Hid (Below w.heap.size w w') := HW.out.2.trans (hb.mono HW.out.2.size)
      clear hb
      go_wp2
      go_ret
      exact ⟨congrArg _ (v_bool HZ2.out.symm), HB.out⟩
    · have hlz : ¬ (L.length : Int) ≤ 4096 := by omega
      have HZ2 : Hid (y = false) := by show _ = _; rw [HZ.out]; simp [hle]
      clear HZ
      go_enter Tryz.func34, Tryz.ntmps34
      go_wp2
      go_ret
      exact ⟨congrArg _ (v_bool HZ2.out.symm), (Below.refl _ _).alloc (Nat.le_refl _) _⟩
  · have q1 : (k == 1) = false := by simpa using h1
    have q2 : (k == 2) = false := by simpa using h2
    have q3 : (k == 3) = false := by simpa using h3
    have q4 : (k == 4) = false := by simpa using h4
    have HQ : Hid (canV k (Tx t) (L.map Tx) = false) := by show _ = _; simp [canV, h1, h2, h3, h4]
    generalize canV k (Tx t) (L.map Tx) = y at *
    clear h1 h2 h3 h4
    go_enter Tryz.func34, Tryz.ntmps34
    go_wp2
    go_ret
    exact ⟨congrArg _ (v_bool HQ.out.symm), (Below.refl _ _).alloc (Nat.le_refl _) _⟩

end Go.Proofs.YtoabgmpcdnikeaaGreatDoor
