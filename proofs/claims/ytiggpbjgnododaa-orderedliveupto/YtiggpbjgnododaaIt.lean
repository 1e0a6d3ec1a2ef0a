/- All of a list of ints, as it is ranged over. -/
import Derived.Test.YtiggpbjgnododaaIo
import Derived.Test.YtiggpbjgnododaaTal
namespace Go.Proofs.Ytiggpbjgnododaa.I
open Go.RowKit Go.Shelf
open T (bel1 take_pre)
set_option linter.unusedVariables false
attribute [local go_sem] Oper.semAt_some

/-- Ints of a slice, in a block of K. -/
def Seg (w : World) (K : Nat → Prop) (a : Option Addr) (L : List Int) : Prop :=
  ∀ i y, L[i]? = some y → ∃ g, a = some ⟨g, 0, none⟩ ∧ K g ∧ g < w.heap.size ∧ w.cell? ⟨g, i, none⟩ = some (.int .i64 y)

theorem Seg.kept {w w' : World} {K : Nat → Prop} {a : Option Addr} {L : List Int} (h : Seg w K a L) (hs : w.heap.size ≤ w'.heap.size) (hk : ∀ g, K g → g < w.heap.size → w'.heap[g]? = w.heap[g]?) : Seg w' K a L := by
  intro i y hy
  obtain ⟨g, h1, h2, h3, h4⟩ := h i y hy
  exact ⟨g, h1, h2, by omega, (World.cell?_of_block (w := w) (a := ⟨g, i, none⟩) (hk g h2 h3)).trans h4⟩

theorem Seg.below {w w' : World} {K : Nat → Prop} {a : Option Addr} {L : List Int} (h : Seg w K a L) (hb : Below w.heap.size w w') : Seg w' K a L := h.kept hb.size (fun g _ hg => hb.block g hg)
theorem Seg.kp {w w' : World} {N C : Nat} {K : Nat → Prop} {a : Option Addr} {L : List Int} (h : Seg w K a L) (hb : Kp N K C w w') : Seg w' K a L := h.kept hb.size (fun g hK hg => by
  rw [hb.keep g w.heap[g] (Array.getElem?_eq_getElem hg) (.inl hK), Array.getElem?_eq_getElem hg])

theorem seg_of {w : World} {K : Nat → Prop} {a : Option Addr} {L : List Int} {n cap : Nat} (h : Items w a L) (hK : ∀ k, (Value.slice a n cap).ownBlock = some k → K k) : Seg w K a L := by
  intro i y hy
  obtain ⟨g, rfl, h1, h2⟩ := h i y hy
  exact ⟨g, rfl, hK g rfl, h1, h2⟩

def enum (L : List Int) : List (Nat × Int) := L.mapIdx fun i x => (i, x)
theorem enum_at {L : List Int} {i : Nat} {y : Int} (h : L[i]? = some y) : (enum L)[i]? = some (i, y) := by simp [enum, h]
theorem enum_length (L : List Int) : (enum L).length = L.length := by simp [enum]
theorem enum_pre {L : List Int} {pre : List (Nat × Int)} {x : Nat × Int} (h : pre ++ [x] <+: enum L) : x.1 = pre.length ∧ L[pre.length]? = some x.2 := by
  obtain ⟨t, ht⟩ := h
  have e : (enum L)[pre.length]? = some x := by rw [← ht]; simp
  simp only [enum, List.getElem?_mapIdx, Option.map_eq_some_iff] at e
  obtain ⟨y, h1, h2⟩ := e
  exact ⟨by rw [← h2], by rw [h1, ← h2]⟩

def enc2 (x : Nat × Int) : Array Value := #[.int .i64 (x.1 : Int), .int .i64 x.2]

set_option maxRecDepth 100000 in
set_option maxHeartbeats 2000000 in
theorem all_iter (N : Nat) (K M : Nat → Prop) (bx cap : Nat) (a : Option Addr) (L : List Int) (W : World) (hl : L.length ≤ 1048576) (hbx : W.cell? ⟨bx, 0, none⟩ = some (.slice a L.length cap)) (hs : Seg W K a L) :
    Iter N K M 92 #[.pointer (some ⟨bx, 0, none⟩)] enc2 (enum L) W := by
  intro l J Jx hJ hJx hY h0
  have hl' : (L.length : Int) ≤ 1048576 := by omega
  have HY : Hid (∀ pre x X, pre ++ [x] <+: enum L → J pre X → YieldAt Fence.wide 0 Try.prog l (enc2 x) X fun e Y => (e = .returned (.bool true) ∧ J (pre ++ [x]) Y ∧ Kp N K (N + 2) X Y) ∨ (e = .returned (.bool false) ∧ Jx (pre ++ [x]) Y ∧ Kp N K (N + 2) X Y)) := hY
  have hro : Fence.wide.round = none := rfl
  clear hY hJ hJx
  refine callsIn_of_wp Try.func92 rfl trivial ?_ rfl
  simp only [Try.ntmps92, List.size_toArray, List.length_cons, List.length_nil, Nat.reduceAdd, Nat.reduceSub, Array.replicate_succ, Array.replicate_zero, List.push_toArray, List.append_toArray, List.nil_append, List.cons_append]
  gi_wp2
  gi_loopw [7] (fun i wr => ∃ k : Nat, k ≤ L.length ∧ i = .int .i64 (k : Int) ∧ Hid (J ((enum L).take k) wr) ∧ Hid (Seg wr K a L)) (fun i _ => L.length - (intOf i).toNat)
  case atStart => exact ⟨0, Nat.zero_le _, rfl, h0, hs⟩
  case round =>
    obtain ⟨k, hk, rfl, hJk, hSk⟩ := hrel
    by_cases hlt : k < L.length
    · have hy := List.getElem?_eq_getElem hlt
      obtain ⟨g, rfl, hg1, hg2, hg3⟩ := hSk.out k _ hy
      obtain ⟨e1, e2⟩ := take_pre (enum_at hy)
      generalize L[k] = y at *
      have hk1 : (k : Int) < (L.length : Int) := by omega
      have hk2 : (0 : Int) ≤ (k : Int) := by omega
      have HE : Hid ((enum L).take k ++ [(k, y)] = (enum L).take (k + 1)) := e1
      have hX := HY.out _ (k, y) wr e2 hJk.out
      unfold enc2 at hX
      dsimp only at hX
      obtain ⟨fn, tmps, assign, body, hy2, hR⟩ := hX
      clear e1 e2 hy
      gi_wp2
      refine ⟨rfl, hR.mono ?_⟩
      rintro e W3 (⟨rfl, hJ3, hk3⟩ | ⟨rfl, hJx3, hk3⟩)
      · have J3 : Hid (J ((enum L).take (k + 1)) W3) := by rw [HE.out] at hJ3; exact hJ3
        have S3 : Hid (Seg W3 K (some ⟨g, 0, none⟩) L) := hSk.out.kp hk3
        clear hJ3 hk3 hR
        gi_wp2
        go_roundw
        case rel => exact ⟨k + 1, by omega, by simp, J3, S3⟩
        case measure => simp [intOf]; omega
      · have J3 : Hid (Jx ((enum L).take (k + 1)) W3) := by rw [HE.out] at hJx3; exact hJx3
        clear hJx3 hk3 hR
        gi_wp2
        refine bodyPost_ret (results_none rfl _ _ _) rfl ?_
        exact ⟨⟨_, rfl⟩, .inr ⟨_, List.take_prefix _ _, J3.out⟩⟩
    · obtain rfl : k = L.length := by omega
      have J3 : Hid (J (enum L) wr) := by have := hJk.out; rw [List.take_of_length_le (by rw [enum_length]; omega)] at this; exact this
      clear hJk
      gi_wp2
      go_end0
      exact ⟨⟨_, rfl⟩, .inl J3.out⟩

theorem LAt.lent {w : World} {B db g : Nat} {caps : Array Value} {L : List Int} {a : Option Addr} {cap : Nat} {lent : Bool} {ed : Int} (h : LAt w B db g caps L a cap lent ed) : LAt (w.setCell ⟨db, 2, none⟩ (.bool true)) B db g caps L a cap true ed :=
  ⟨by simpa using h.head.set 2 (.bool true), own_of_block h.row (fun k hk => Below.heap_setCell _ _ _ _ (h.ne k hk)), h.ne, h.len⟩

theorem LAt.of_blocks {w w' : World} {B db g : Nat} {caps : Array Value} {L : List Int} {a : Option Addr} {cap : Nat} {lent : Bool} {ed : Int} (h : LAt w B db g caps L a cap lent ed) (h1 : w'.heap[db]? = w.heap[db]?)
    (h2 : ∀ k, (Value.slice a L.length cap).ownBlock = some k → w'.heap[k]? = w.heap[k]?) : LAt w' B db g caps L a cap lent ed :=
  ⟨h.head.of_block h1, own_of_block h.row h2, h.ne, h.len⟩

theorem LAt.stab {X Y : World} {B db g : Nat} {caps : Array Value} {L : List Int} {a : Option Addr} {cap : Nat} {lent : Bool} {ed : Int} {N : Nat} {M : Nat → Prop} (hM : ∀ k, M k → k = db) (h : LAt X B db g caps L a cap lent ed) (st : Stab N M X Y) : ∃ lent', LAt Y B db g caps L a cap lent' ed := by
  have hrow : ∀ k, (Value.slice a L.length cap).ownBlock = some k → Y.heap[k]? = X.heap[k]? := fun k hk => by
    rcases h.row.2 with ⟨e, _⟩ | ⟨g', cap', cur, e, _, hh, _⟩
    · rw [e] at hk; cases hk
    · rw [e] at hk
      simp only [Value.ownBlock, Option.some.injEq] at hk
      subst hk
      rw [hh]
      exact st.same hh (fun hm => h.ne _ (by rw [e]; rfl) (hM _ hm)) (.inr rfl)
  obtain ⟨T, hT⟩ := h.head
  rcases st.keep db _ hT (.inr rfl) with h1 | ⟨_, h1⟩
  · exact ⟨lent, ⟨T, h1⟩, own_of_block h.row hrow, h.ne, h.len⟩
  · exact ⟨true, ⟨T, by simpa [flagged] using h1⟩, own_of_block h.row hrow, h.ne, h.len⟩

set_option maxRecDepth 100000 in
set_option maxHeartbeats 1000000 in
theorem lend_any (w : World) (B db g : Nat) (caps : Array Value) (L : List Int) (a : Option Addr) (cap : Nat) (lent : Bool) (ed : Int) (h : LAt w B db g caps L a cap lent ed) :
    Calls Try.prog 69 #[.pointer (some ⟨db, 0, none⟩)] w fun e w' => e = .returned (.slice a L.length cap) ∧ w' = w.setCell ⟨db, 2, none⟩ (.bool true) := by
  have c1 : w.cell? ⟨db, 1, none⟩ = some (.slice a L.length cap) := h.head.cell 1
  have c2 : w.cell? ⟨db, 2, none⟩ = some (.bool lent) := h.head.cell 2
  have f2 : w.frozen? ⟨db, 2, none⟩ = false := h.head.frozen 2
  clear h
  go_enter Try.func69, Try.ntmps69
  go_wp2
  go_ret
  exact ⟨rfl, rfl⟩

set_option maxRecDepth 100000 in
set_option maxHeartbeats 1000000 in
theorem sall_any (w : World) (a : Option Addr) (n cap : Nat) : Calls Try.prog 68 #[.slice a n cap] w fun e w' => e = .returned (.func (.func 92) #[] #[.pointer (some ⟨w.heap.size, 0, none⟩)]) ∧ w' = w.alloc (.cells #[.slice a n cap] 55) := by
  have hmf : ∀ (fn : Fn) (first cap : Array Value) (w : World), (Instr.makeFunc fn first cap).run Try.prog w = .ok (.func fn first cap) w := fun _ _ _ _ => rfl
  go_enter Try.func68, Try.ntmps68
  go_wp2
  go_ret
  exact ⟨rfl, rfl⟩

set_option maxRecDepth 100000 in
set_option maxHeartbeats 1000000 in
theorem pall_any (w : World) (p : Option Addr) : Calls Try.prog 28 #[.pointer p] w fun e w' => e = .returned (.func (.func 67) #[] #[.pointer (some ⟨w.heap.size, 0, none⟩)]) ∧ w' = w.alloc (.cells #[.pointer p] 38) := by
  have hmf : ∀ (fn : Fn) (first cap : Array Value) (w : World), (Instr.makeFunc fn first cap).run Try.prog w = .ok (.func fn first cap) w := fun _ _ _ _ => rfl
  go_enter Try.func28, Try.ntmps28
  go_wp2
  go_ret
  exact ⟨rfl, rfl⟩

set_option maxRecDepth 100000 in
set_option maxHeartbeats 1000000 in
theorem all_goes (N : Nat) (K M : Nat → Prop) (bp : Nat) (W : World) (B db g : Nat) (caps : Array Value) (L : List Int) (a : Option Addr) (cap : Nat) (lent : Bool) (ed : Int)
    (hbp : W.cell? ⟨bp, 0, none⟩ = some (.pointer (some ⟨db, 0, none⟩))) (h : LAt W B db g caps L a cap lent ed) (hM : M db) (hK : ∀ k, (Value.slice a L.length cap).ownBlock = some k → K k) :
    Iter N K M 67 #[.pointer (some ⟨bp, 0, none⟩)] enc2 (enum L) W := by
  intro l J Jx hJ hJx hY h0
  have hlend := lend_any W B db g caps L a cap lent ed h
  have h1 := h.lent
  obtain ⟨W1, hW1⟩ : ∃ W1, W.setCell ⟨db, 2, none⟩ (.bool true) = W1 := ⟨_, rfl⟩
  rw [hW1] at h1 hlend
  have hsall := sall_any W1 a L.length cap
  have hit : Iter N K M 92 #[.pointer (some ⟨W1.heap.size, 0, none⟩)] enc2 (enum L) (W1.alloc (.cells #[.slice a L.length cap] 55)) :=
    all_iter N K M W1.heap.size cap a L _ (by have := h.len; omega) ((isCells_new W1 _ _).cell 0) ((seg_of h1.items hK).below (bel1 _ _))
  have hgo := hit l J Jx hJ hJx hY (hJ _ _ _ h0 (by rw [← hW1]; exact (Stab.set _ hM).trans (Stab.below (bel1 _ _))))
  have HG : Hid (CallsIn Fence.wide 0 Try.prog 92 (#[.func (.yield l) #[] #[]] ++ #[.pointer (some ⟨W1.heap.size, 0, none⟩)]) (W1.alloc (.cells #[.slice a L.length cap] 55)) fun e Y => (∃ v, e = .returned v) ∧ (J (enum L) Y ∨ ∃ pre, pre <+: enum L ∧ Jx pre Y)) := hgo
  clear hit hgo hJ hJx hY h0 h h1 hK hW1
  refine callsIn_of_wp Try.func67 rfl trivial ?_ rfl
  simp only [Try.ntmps67, List.size_toArray, List.length_cons, List.length_nil, Nat.reduceAdd, Nat.reduceSub, Array.replicate_succ, Array.replicate_zero, List.push_toArray, List.append_toArray, List.nil_append, List.cons_append]
  gi_wp2_with fail
  refine ⟨trivial, rfl, (callsIn_wide.2 hlend).mono ?_⟩
  rintro e W2 ⟨rfl, rfl⟩
  clear hlend
  gi_wp2_with fail
  refine ⟨trivial, rfl, (callsIn_wide.2 hsall).mono ?_⟩
  rintro e W3 ⟨rfl, rfl⟩
  clear hsall
  have eg : ∀ args w, (callFunc 92 args).run Try.prog w = .ok (.enter 92 args) w := enters_of Try.func92 (by kernel_rfl) rfl
  gi_wp2_with fail
  refine ⟨trivial, rfl, HG.out.mono ?_⟩
  rintro e W4 ⟨⟨v, rfl⟩, hE⟩
  have HE : Hid (J (enum L) W4 ∨ ∃ pre, pre <+: enum L ∧ Jx pre W4) := hE
  clear HG hE
  gi_wp2
  go_end0
  exact ⟨⟨_, rfl⟩, HE.out⟩

end Go.Proofs.Ytiggpbjgnododaa.I
