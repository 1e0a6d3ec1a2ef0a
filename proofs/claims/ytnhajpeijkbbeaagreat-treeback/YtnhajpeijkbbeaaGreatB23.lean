/- Slots copied, by the program. -/
import Derived.Test.YtnhajpeijkbbeaaGreatB22
import Derived.Laws.OwnMore
import Derived.Deep.DeepCutAuto
import Derived.Test.YtnhajpeijkbbeaaGreatB04
import Derived.Test.YtnhajpeijkbbeaaGreatB06
namespace Go.Proofs.YtnhajpeijkbbeaaGreat
open Go.RowKit
set_option maxRecDepth 100000
set_option maxHeartbeats 2000000
set_option linter.unusedVariables false
set_option linter.unusedSimpArgs false
def CsP (W : World) (R : Nat -> Prop) (s : Sl) (e : Ending) (w' : World) : Prop :=
 ∃ aa ac ka kc, e = .returned (.agg (slv s aa ac ka kc)) /\ s.attrs.length <= ac /\ s.kids.length <= kc /\ AttrsR w' R aa s.attrs /\ HandsAt w' R ka s.kids /\ Below W.heap.size W w'
theorem cs1_any (w : World) (R : Nat -> Prop) (db B i : Nat) (D : Dc) (s : Sl) (hB : w.cell? ⟨B, 0, none⟩ = some (.pointer (some ⟨db, 0, none⟩))) (hv : View w R db D) (hs : D.S[i]? = some s) :
  Calls Tryz.prog 92 #[.int .i64 (i : Int), .pointer (some ⟨B, 0, none⟩)] w (CsP w R s) := by
 obtain ⟨sb, so, scap, aa, ac, ka, kc, hh1, hsc, hsbR, c0, c1, c2, c3, c4, c5, c6, c7, l1, l2, hat, hkt⟩ := hv.slot hs
 have hil := (List.getElem?_eq_some_iff.1 hs).1
 have hbl := hv.lt sb hsbR
 have hdl := hv.lt db hv.docs
 have hBl := World.block_lt_of_cell? w _ hB
 simp only at hBl
 have HAT : Hid (AttrsR w R aa s.attrs) := hat
 have HKT : Hid (HandsAt w R ka s.kids) := hkt
 have HR : Hid (∀ b, R b -> b < w.heap.size) := hv.lt
 have hi1 : (i : Int) < ((D.S.length : Nat) : Int) := by omega
 have hi0 : (0 : Int) <= (i : Int) := by omega
 clear hat hkt hv hs
 go_enter Tryz.func92, Tryz.ntmps92
 go_wp2
 refine bodyPost_ret (v := .agg (slv s aa ac ka kc)) (by simp [results, Tryz.results92, go_sem, slv]) rfl ⟨aa, ac, ka, kc, rfl, l1, l2, ?_⟩
 have hb : Below w.heap.size w (w.alloc (.cells #[.int .u32 (s.gen : Int), .bool s.live, .int .i64 s.kind, .string s.name, .slice aa s.attrs.length ac, .string s.text, .int .u64 (s.parent : Int), .slice ka s.kids.length kc] 75)) := below_new' w _
 exact ⟨HAT.out.to (fun _ h => h) (fun b o hb' => hb.cell (p := ⟨b, o, none⟩) (HR.out b hb')), HKT.out.to (fun _ h => h) (fun b o hb' => hb.cell (p := ⟨b, o, none⟩) (HR.out b hb')), hb⟩
structure CyS (w wr : World) (S : List Sl) (i : Nat) (L : List (Value × Value)) (xs : List Value) : Prop where
 own : wr.ownsRow w.heap.size 75 8 (.slice (some ⟨w.heap.size, 0, none⟩) S.length S.length) S.length xs
 len : L.length = i
 first : xs.take (i * 8) = rowOf (S.take i) L
 vals : ∀ (k : Nat) (s : Sl) (p : Value × Value), (S.take i)[k]? = some s -> L[k]? = some p -> wr.ownsRow w.heap.size 128 2 p.1 s.attrs.length (attrCells s.attrs) /\ wr.ownsRow w.heap.size 42 1 p.2 s.kids.length (hvals s.kids)
 ros : ∃ ro : Nat -> Nat, (∀ (k : Nat) (p : Value × Value) (b : Nat), L[k]? = some p -> p.1.ownBlock = some b -> ro b = 2 * k + 4) /\ (∀ (k : Nat) (p : Value × Value) (b : Nat), L[k]? = some p -> p.2.ownBlock = some b -> ro b = 2 * k + 5) /\ ∀ b, ro b ≠ 0 -> w.heap.size < b /\ b < wr.heap.size
 bel : Below w.heap.size w wr
def OwV (w : World) (H : Nat) (s : Sl) (p : Value × Value) : Prop :=
 w.ownsRow H 128 2 p.1 s.attrs.length (attrCells s.attrs) /\ w.ownsRow H 42 1 p.2 s.kids.length (hvals s.kids) /\ ∀ b, p.1.ownBlock = some b -> p.2.ownBlock ≠ some b
def set8 (w : World) (g j : Nat) (l : List Value) : World :=
 match l with
 | [] => w
 | x :: r => set8 (w.setCell ⟨g, j, none⟩ x) g (j + 1) r
def lset (xs : List Value) (j : Nat) (l : List Value) : List Value :=
 match l with
 | [] => xs
 | x :: r => lset (xs.set j x) (j + 1) r
theorem own_set8 {base e size g n cap : Nat} : ∀ (l : List Value) (w : World) (j : Nat) (xs : List Value), w.ownsRow base e size (.slice (some ⟨g, 0, none⟩) n cap) n xs -> (set8 w g j l).ownsRow base e size (.slice (some ⟨g, 0, none⟩) n cap) n (lset xs j l)
 | [], w, j, xs, h => h
 | x :: r, w, j, xs, h => own_set8 r _ _ _ (own_set h j x)
theorem turn_set8 {g : Nat} : ∀ (l : List Value) (w : World) (j : Nat), Turn (fun b => b = g) w (set8 w g j l)
 | [], w, j => Turn.refl _ _
 | x :: r, w, j => ((Turn.refl (fun b => b = g) w).setCell (A := fun b => b = g) (p := ⟨g, j, none⟩) rfl x).trans (turn_set8 r _ _)
theorem lset_length : ∀ (l xs : List Value) (j : Nat), (lset xs j l).length = xs.length
 | [], xs, j => rfl
 | x :: r, xs, j => by rw [lset, lset_length r, List.length_set]
theorem lset_below : ∀ (l xs : List Value) (j k : Nat), k < j -> (lset xs j l)[k]? = xs[k]?
 | [], xs, j, k, h => rfl
 | x :: r, xs, j, k, h => by rw [lset, lset_below r _ _ _ (by omega), List.getElem?_set_ne (by omega)]
theorem lset_at : ∀ (l xs : List Value) (j k : Nat), k < l.length -> j + l.length <= xs.length -> (lset xs j l)[j + k]? = l[k]?
 | [], xs, j, k, h, h2 => by simp at h
 | x :: r, xs, j, 0, h, h2 => by
  rw [lset, lset_below r _ _ _ (by omega)]
  simp at h2
  rw [Nat.add_zero, List.getElem?_set_self (by omega)]
  rfl
 | x :: r, xs, j, k + 1, h, h2 => by
  simp at h h2
  rw [lset, show j + (k + 1) = j + 1 + k from by omega, lset_at r _ _ _ h (by rw [List.length_set]; omega)]
  rfl
theorem lset_take {l xs : List Value} {j : Nat} (h : j + l.length <= xs.length) : (lset xs j l).take (j + l.length) = xs.take j ++ l := by
 apply List.ext_getElem?
 intro k
 rcases Nat.lt_or_ge k (j + l.length) with hk | hk
 ·rw [List.getElem?_take_of_lt hk]
  rcases Nat.lt_or_ge k j with hj | hj
  ·rw [lset_below _ _ _ _ hj, List.getElem?_append_left (by rw [List.length_take]; omega), List.getElem?_take_of_lt hj]
  ·rw [List.getElem?_append_right (by rw [List.length_take]; omega), List.length_take, Nat.min_eq_left (by omega)]
   have := lset_at l xs j (k - j) (by omega) h
   rw [show j + (k - j) = k from by omega] at this
   exact this
 ·rw [List.getElem?_eq_none (by rw [List.length_take, lset_length]; omega), List.getElem?_eq_none (by rw [List.length_append, List.length_take]; omega)]
theorem CyS.step {w wr w5 : World} {S : List Sl} {i : Nat} {L : List (Value × Value)} {xs : List Value} (h : CyS w wr S i L xs) {s : Sl} (hs : S[i]? = some s) {p : Value × Value} (hb : Below wr.heap.size wr w5) (hv : OwV w5 wr.heap.size s p) :
  CyS w (set8 w5 w.heap.size (i * 8) (slotCells s p)) S (i + 1) (L ++ [p]) (lset xs (i * 8) (slotCells s p)) := by
 have hi := (List.getElem?_eq_some_iff.1 hs).1
 have o5 := own_of_block (w' := w5) h.own (fun k hk => hb.block k (own_block_lt h.own k hk).2)
 have ht := turn_set8 (g := w.heap.size) (slotCells s p) w5 (i * 8)
 have hbl := h.bel.size
 have hgl := (own_block_lt h.own w.heap.size rfl).2
 have hxl : xs.length = S.length * 8 := h.own.1
 have hsl : (slotCells s p).length = 8 := rfl
 have hss := hb.size
 have hts := ht.size
 have htl : (S.take i).length = i := by rw [List.length_take]; omega
 obtain ⟨ro, r1, r2, r3⟩ := h.ros
 obtain ⟨v1, v2, v3⟩ := hv
 have b1 := own_block_lt v1
 have b2 := own_block_lt v2
 refine ⟨own_set8 _ _ _ _ o5, by rw [List.length_append, h.len]; rfl, ?_, ?_, ?_, ?_⟩
 ·rw [take_more hs, rowOf_snoc (by rw [h.len, htl]), <- h.first, show (i + 1) * 8 = i * 8 + (slotCells s p).length from by rw [hsl]; omega]
  exact lset_take (by rw [hsl]; omega)
 ·intro k s' p' hk1 hk2
  rw [take_more hs] at hk1
  rcases Nat.lt_or_ge k i with hki | hki
  ·rw [List.getElem?_append_left (by omega)] at hk1
   rw [List.getElem?_append_left (by rw [h.len]; omega)] at hk2
   obtain ⟨o1, o2⟩ := h.vals k s' p' hk1 hk2
   have hold : ∀ b, ro b ≠ 0 -> (set8 w5 w.heap.size (i * 8) (slotCells s p)).heap[b]? = wr.heap[b]? := fun b hb' => by
    have := r3 b hb'
    exact (ht.block b (by omega) (by omega)).trans (hb.block b (by omega))
   exact ⟨own_of_block o1 (fun b hb' => hold b (by rw [r1 k p' b hk2 hb']; omega)), own_of_block o2 (fun b hb' => hold b (by rw [r2 k p' b hk2 hb']; omega))⟩
  ·have hke : k = i := by
    have := (List.getElem?_eq_some_iff.1 hk1).1
    rw [List.length_append, htl] at this
    simp at this
    omega
   subst hke
   rw [List.getElem?_append_right (by omega), htl] at hk1
   rw [List.getElem?_append_right (by rw [h.len]; omega), h.len] at hk2
   simp at hk1 hk2
   subst hk1 hk2
   exact ⟨own_of_block (own_base v1 (fun b hb' => by have := b1 b hb'; omega)) (fun b hb' => ht.block b (b1 b hb').2 (by have := b1 b hb'; omega)), own_of_block (own_base v2 (fun b hb' => by have := b2 b hb'; omega)) (fun b hb' => ht.block b (b2 b hb').2 (by have := b2 b hb'; omega))⟩
 ·refine ⟨fun b => if p.1.ownBlock = some b then 2 * i + 4 else if p.2.ownBlock = some b then 2 * i + 5 else ro b, fun k q b hk hq => ?_, fun k q b hk hq => ?_, fun b hb' => ?_⟩
  ·rcases Nat.lt_or_ge k i with hki | hki
   ·rw [List.getElem?_append_left (by rw [h.len]; omega)] at hk
    have e := r1 k q b hk hq
    have hlt := r3 b (by rw [e]; omega)
    simp only
    rw [if_neg (fun c => by have := b1 b c; omega), if_neg (fun c => by have := b2 b c; omega)]
    exact e
   ·have hke : k = i := by
     have := (List.getElem?_eq_some_iff.1 hk).1
     rw [List.length_append, h.len] at this
     simp at this
     omega
    subst hke
    rw [List.getElem?_append_right (by rw [h.len]; omega), h.len] at hk
    simp at hk
    subst hk
    simp only
    rw [if_pos hq]
  ·rcases Nat.lt_or_ge k i with hki | hki
   ·rw [List.getElem?_append_left (by rw [h.len]; omega)] at hk
    have e := r2 k q b hk hq
    have hlt := r3 b (by rw [e]; omega)
    simp only
    rw [if_neg (fun c => by have := b1 b c; omega), if_neg (fun c => by have := b2 b c; omega)]
    exact e
   ·have hke : k = i := by
     have := (List.getElem?_eq_some_iff.1 hk).1
     rw [List.length_append, h.len] at this
     simp at this
     omega
    subst hke
    rw [List.getElem?_append_right (by rw [h.len]; omega), h.len] at hk
    simp at hk
    subst hk
    simp only
    rw [if_neg (fun c => v3 b c hq), if_pos hq]
  ·simp only at hb'
   by_cases c1 : p.1.ownBlock = some b
   ·have := b1 b c1
    omega
   ·rw [if_neg c1] at hb'
    by_cases c2 : p.2.ownBlock = some b
    ·have := b2 b c2
     omega
    ·rw [if_neg c2] at hb'
     have := r3 b hb'
     omega
 ·exact (h.bel.trans (hb.mono hbl)).trans (ht.below (by omega) (fun k hk => by omega))
theorem cy_pair {wr w1 W0 w2 w3 : World} {s : Sl} {aa ka va vb : Option Addr} {ac kc vc vd : Nat} (hbx : Below wr.heap.size wr W0) (hx : IsCells w3 w1.heap.size #[.int .u32 (s.gen : Int), .bool s.live, .int .i64 s.kind, .string s.name, .slice aa s.attrs.length ac, .string s.text, .int .u64 (s.parent : Int), .slice ka s.kids.length kc])
  (hb2 : Below W0.heap.size W0 w2) (hb3 : Below w2.heap.size w2 w3) (ho2 : w2.ownsRow W0.heap.size 128 2 (.slice va s.attrs.length vc) s.attrs.length (attrCells s.attrs)) (ho3 : w3.ownsRow w2.heap.size 42 1 (.slice vb s.kids.length vd) s.kids.length (hvals s.kids)) (hs0 : W0.heap.size = w1.heap.size + 1) (hs1 : wr.heap.size <= w1.heap.size) :
  IsCells ((w3.setCell ⟨w1.heap.size, 4, none⟩ (.slice va s.attrs.length vc)).setCell ⟨w1.heap.size, 7, none⟩ (.slice vb s.kids.length vd)) w1.heap.size (slotCells s (.slice va s.attrs.length vc, .slice vb s.kids.length vd)).toArray /\
  Below wr.heap.size wr ((w3.setCell ⟨w1.heap.size, 4, none⟩ (.slice va s.attrs.length vc)).setCell ⟨w1.heap.size, 7, none⟩ (.slice vb s.kids.length vd)) /\
  OwV ((w3.setCell ⟨w1.heap.size, 4, none⟩ (.slice va s.attrs.length vc)).setCell ⟨w1.heap.size, 7, none⟩ (.slice vb s.kids.length vd)) wr.heap.size s (.slice va s.attrs.length vc, .slice vb s.kids.length vd) := by
 have z2 := hb2.size
 have z3 := hb3.size
 have ht : Turn (fun b => b = w1.heap.size) w3 ((w3.setCell ⟨w1.heap.size, 4, none⟩ (.slice va s.attrs.length vc)).setCell ⟨w1.heap.size, 7, none⟩ (.slice vb s.kids.length vd)) := ((Turn.refl (fun b => b = w1.heap.size) w3).setCell (A := fun b => b = w1.heap.size) (p := ⟨w1.heap.size, 4, none⟩) rfl _).setCell (A := fun b => b = w1.heap.size) (p := ⟨w1.heap.size, 7, none⟩) rfl _
 have hall : Below wr.heap.size wr w3 := (hbx.trans (hb2.mono (by omega))).trans (hb3.mono (by omega))
 have b2 := own_block_lt ho2
 have b3 := own_block_lt ho3
 refine ⟨(hx.set 4 _).set 7 _, hall.trans (ht.below (by omega) (fun k hk => by omega)), ?_, ?_, fun b e1 e2 => ?_⟩
 ·exact own_of_block (own_base ho2 (fun b hb => by have := b2 b hb; omega)) (fun b hb => (ht.block b (by have := b2 b hb; omega) (by have := b2 b hb; omega)).trans (hb3.block b (b2 b hb).2))
 ·exact own_of_block (own_base ho3 (fun b hb => by have := b3 b hb; omega)) (fun b hb => ht.block b (b3 b hb).2 (by have := b3 b hb; omega))
 ·have := b2 b e1
  have := b3 b e2
  omega
def CyP (w : World) (S : List Sl) (e : Ending) (w' : World) : Prop :=
 ∃ L xs, e = .returned (.slice (some ⟨w.heap.size, 0, none⟩) S.length S.length) /\ CyS w w' S S.length L xs
theorem CyS.row {w wr : World} {S : List Sl} {L : List (Value × Value)} {xs : List Value} (h : CyS w wr S S.length L xs) : wr.ownsRow w.heap.size 75 8 (.slice (some ⟨w.heap.size, 0, none⟩) S.length S.length) S.length (rowOf S L) := by
 have hx : xs = rowOf S L := by
  have := h.first
  rw [List.take_length, List.take_of_length_le (by rw [h.own.1]; omega)] at this
  exact this
 have ho := h.own
 rw [hx] at ho
 exact ho
theorem OwV_vals {w : World} {H : Nat} {s : Sl} {p : Value × Value} (h1 : w.ownsRow H 128 2 p.1 s.attrs.length (attrCells s.attrs)) (h2 : w.ownsRow H 42 1 p.2 s.kids.length (hvals s.kids)) : SlotVals w (Fw w H) s p := by
 obtain ⟨pa, pk⟩ := p
 obtain ⟨aa, ac, e1⟩ := own_slice h1
 obtain ⟨ka, kc, e2⟩ := own_slice h2
 simp only at e1 e2
 subst e1 e2
 exact ⟨aa, ac, ka, kc, rfl, (attrs_own h1 rfl).2.2, (row_cell h2).1, (attrs_own h1 rfl).1.to (fun b hb => hb.2) (fun _ _ _ => rfl), (hands_own h2).to (fun b hb => hb.2) (fun _ _ _ => rfl)⟩
theorem CyS.done {w wr : World} {S : List Sl} {L : List (Value × Value)} {xs : List Value} (h : CyS w wr S S.length L xs) : SlotsAt wr (Fw wr w.heap.size) (some ⟨w.heap.size, 0, none⟩) S := by
 have ho := h.row
 exact (slots_row h.len ho (fun i s p hs hp => by
  obtain ⟨v1, v2⟩ := h.vals i s p (by rw [List.take_length]; exact hs) hp
  exact OwV_vals v1 v2) (fun g e h1 h2 => ⟨h1, h2, own_wr ho (by rw [e]; rfl)⟩)).1
theorem cy_any (w : World) (R : Nat -> Prop) (B : Nat) (S : List Sl) (hR : ∀ b, R b -> b < w.heap.size) (hn : S.length <= 4096) (hcap : ∀ (i : Nat) (s : Sl), S[i]? = some s -> s.attrs.length <= 1000000 /\ s.kids.length <= 1000000)
  (hcl : ∀ (i : Nat) (s : Sl), S[i]? = some s -> ∀ W, Below w.heap.size w W -> Calls Tryz.prog 92 #[.int .i64 (i : Int), .pointer (some ⟨B, 0, none⟩)] W (CsP W R s)) :
  Calls Tryz.prog 32 #[.int .i64 (S.length : Int), .func (.func 92) #[] #[.pointer (some ⟨B, 0, none⟩)]] w (CyP w S) := by
 obtain ⟨W1, hmk, hO1, hB1⟩ : ∃ W1, (Instr.makeSlice 22 (.int .i64 (S.length : Int)) (.int .i64 (S.length : Int))).run Tryz.prog w = .ok (.slice (some ⟨w.heap.size, 0, none⟩) S.length S.length) W1 /\ Hid (∃ xs, W1.ownsRow w.heap.size 75 8 (.slice (some ⟨w.heap.size, 0, none⟩) S.length S.length) S.length xs) /\ Hid (Below w.heap.size w W1) := by
  obtain ⟨i, hi0, hz0, hz1, hz2⟩ := info75.parts
  obtain ⟨w', hr, h2, h3⟩ := run_make_full (P := Tryz.prog) w w.heap.size 22 75 i _ 8 Tryz.underlying22 hi0 hz0 hz1 .i64 .i64 S.length (by rw [hz2]; omega) (by unfold maxLen; omega) (Nat.le_refl _)
  exact ⟨w', hr, ⟨_, h2⟩, ⟨h3.os, h3.tape, h3.output, h3.size, fun k hk => h3.block k hk (by simp)⟩⟩
 obtain ⟨xs0, hxs0⟩ := hO1.out
 have HST : Hid (CyS w W1 S 0 [] xs0) := ⟨hxs0, rfl, by simp [rowOf], (fun k s p hk _ => by simp at hk), ⟨fun _ => 0, (fun k p b hk _ => by simp at hk), (fun k p b hk _ => by simp at hk), fun b hb => absurd rfl hb⟩, hB1.out⟩
 have HCL : Hid (∀ (i : Nat) (s : Sl), S[i]? = some s -> ∀ W, Below w.heap.size w W -> Calls Tryz.prog 92 #[.int .i64 (i : Int), .pointer (some ⟨B, 0, none⟩)] W (CsP W R s)) := hcl
 have HR : Hid (∀ b, R b -> b < w.heap.size) := hR
 have HCAP : Hid (∀ (i : Nat) (s : Sl), S[i]? = some s -> s.attrs.length <= 1000000 /\ s.kids.length <= 1000000) := hcap
 clear hxs0 hcl hR hO1 hB1 hcap
 go_enter Tryz.func32, Tryz.ntmps32
 go_wp2
 clear hmk
 go_loopw [12] (fun iv wr => ∃ (i : Nat) (L : List (Value × Value)) (xs : List Value), i <= S.length /\ iv = .int .i64 (i : Int) /\ Hid (CyS w wr S i L xs)) (fun iv _ => S.length - (intOf iv).toNat)
 case atStart => exact ⟨0, [], xs0, Nat.zero_le _, rfl, HST⟩
 case round =>
  obtain ⟨i, L, xs, hi, rfl, hst⟩ := hrel
  clear HST
  have hbs := hst.out.bel.size
  by_cases hlt : i < S.length
  ·obtain ⟨s, hs⟩ : ∃ s, S[i]? = some s := ⟨_, List.getElem?_eq_getElem hlt⟩
   have hcall := HCL.out i s hs wr hst.out.bel
   obtain ⟨hal, hkl⟩ := HCAP.out i s hs
   have HS : Hid (S[i]? = some s) := hs
   clear hs
   go_wp2_with fail
   refine hcall.mono ?_
   rintro e w1 ⟨aa, ac, ka, kc, rfl, l1, l2, hat, hkt, hb1⟩
   have hs1 := hb1.size
   have HB1 : Hid (Below wr.heap.size wr w1) := hb1
   have HAT : Hid (AttrsR w1 R aa s.attrs) := hat
   have HKT : Hid (HandsAt w1 R ka s.kids) := hkt
   have HX : Hid (IsCells (w1.alloc (.cells #[.int .u32 (s.gen : Int), .bool s.live, .int .i64 s.kind, .string s.name, .slice aa s.attrs.length ac, .string s.text, .int .u64 (s.parent : Int), .slice ka s.kids.length kc] 75)) w1.heap.size #[.int .u32 (s.gen : Int), .bool s.live, .int .i64 s.kind, .string s.name, .slice aa s.attrs.length ac, .string s.text, .int .u64 (s.parent : Int), .slice ka s.kids.length kc]) := isCells_new w1 _ _
   have HBX : Hid (Below wr.heap.size wr (w1.alloc (.cells #[.int .u32 (s.gen : Int), .bool s.live, .int .i64 s.kind, .string s.name, .slice aa s.attrs.length ac, .string s.text, .int .u64 (s.parent : Int), .slice ka s.kids.length kc] 75))) := hb1.alloc hs1 _
   have HFA : Hid (∀ W, Below w1.heap.size w1 W -> Calls Tryz.prog 90 #[.slice aa s.attrs.length ac] W (FrP W 128 2 s.attrs.length (attrCells s.attrs))) := fun W hb => freshA_any W R aa s.attrs ac (HAT.out.to (fun _ h => h) (fun b o hb' => hb.cell (p := ⟨b, o, none⟩) (by have := HR.out b hb'; show b < w1.heap.size; omega))) hal
   have HFH : Hid (∀ W, Below w1.heap.size w1 W -> Calls Tryz.prog 35 #[.slice ka s.kids.length kc] W (FrP W 42 1 s.kids.length (hvals s.kids))) := fun W hb => freshH_any W R ka s.kids kc (HKT.out.to (fun _ h => h) (fun b o hb' => hb.cell (p := ⟨b, o, none⟩) (by have := HR.out b hb'; show b < w1.heap.size; omega))) hkl
   have HB0 : Hid (Below w1.heap.size w1 (w1.alloc (.cells #[.int .u32 (s.gen : Int), .bool s.live, .int .i64 s.kind, .string s.name, .slice aa s.attrs.length ac, .string s.text, .int .u64 (s.parent : Int), .slice ka s.kids.length kc] 75))) := below_new' w1 _
   unfold slv
   clear hb1 hat hkt hcall
   go_upto_region 6 with fail
   go_cut [] (fun wx => ∃ p : Value × Value, Hid (IsCells wx w1.heap.size (slotCells s p).toArray) /\ Hid (Below wr.heap.size wr wx) /\ Hid (OwV wx wr.heap.size s p))
   case first =>
    generalize hW0 : w1.alloc (.cells #[.int .u32 (s.gen : Int), .bool s.live, .int .i64 s.kind, .string s.name, .slice aa s.attrs.length ac, .string s.text, .int .u64 (s.parent : Int), .slice ka s.kids.length kc] 75) = W0 at *
    have hs0 : W0.heap.size = w1.heap.size + 1 := by rw [<- hW0]; simp
    clear hW0
    have hc4 : W0.cell? ⟨w1.heap.size, 4, none⟩ = some (.slice aa s.attrs.length ac) := HX.out.cell 4
    have hc7 : W0.cell? ⟨w1.heap.size, 7, none⟩ = some (.slice ka s.kids.length kc) := HX.out.cell 7
    have hf4 : W0.frozen? ⟨w1.heap.size, 4, none⟩ = false := HX.out.frozen 4
    have hf7 : W0.frozen? ⟨w1.heap.size, 7, none⟩ = false := HX.out.frozen 7
    have hfa := HFA.out W0.drew HB0.out.drew
    go_region_with
     (first
      | (go_at_call 90; refine hfa.mono ?_; rintro e w2 ⟨va, vc, rfl, hown2, hb2⟩; have hb2' : Below W0.heap.size W0 w2 := (Below.refl _ _).drew.trans hb2; have hs2 := hb2'.size; have HX2 : Hid (IsCells w2 w1.heap.size #[.int .u32 (s.gen : Int), .bool s.live, .int .i64 s.kind, .string s.name, .slice aa s.attrs.length ac, .string s.text, .int .u64 (s.parent : Int), .slice ka s.kids.length kc]) := HX.out.of_block (hb2'.block _ (by omega)); have d4 : w2.cell? ⟨w1.heap.size, 4, none⟩ = some (.slice aa s.attrs.length ac) := HX2.out.cell 4; have d7 : w2.cell? ⟨w1.heap.size, 7, none⟩ = some (.slice ka s.kids.length kc) := HX2.out.cell 7; have hfh := HFH.out w2 (HB0.out.trans (hb2'.mono (by omega))); have HO2 : Hid (w2.ownsRow W0.heap.size 128 2 (.slice va s.attrs.length vc) s.attrs.length (attrCells s.attrs)) := hown2; have HB2 : Hid (Below W0.heap.size W0 w2) := hb2'; clear hown2 hb2 hb2')
      | (go_at_call 35; refine hfh.mono ?_; rintro e w3 ⟨vb, vd, rfl, hown3, hb3⟩; have hs3 := hb3.size; have HX3 : Hid (IsCells w3 w1.heap.size #[.int .u32 (s.gen : Int), .bool s.live, .int .i64 s.kind, .string s.name, .slice aa s.attrs.length ac, .string s.text, .int .u64 (s.parent : Int), .slice ka s.kids.length kc]) := HX2.out.of_block (hb3.block _ (by omega)); have e4 : w3.cell? ⟨w1.heap.size, 4, none⟩ = some (.slice aa s.attrs.length ac) := HX3.out.cell 4; have e7 : w3.cell? ⟨w1.heap.size, 7, none⟩ = some (.slice ka s.kids.length kc) := HX3.out.cell 7; have q4 : w3.frozen? ⟨w1.heap.size, 4, none⟩ = false := HX3.out.frozen 4; have q7 : w3.frozen? ⟨w1.heap.size, 7, none⟩ = false := HX3.out.frozen 7; have HO3 : Hid (w3.ownsRow w2.heap.size 42 1 (.slice vb s.kids.length vd) s.kids.length (hvals s.kids)) := hown3; have HB3 : Hid (Below w2.heap.size w2 w3) := hb3; clear hown3 hb3))
    all_goals
     go_wp2_with fail
     go_meet
     exact ⟨(.slice va s.attrs.length vc, .slice vb s.kids.length vd), cy_pair HBX.out HX3.out HB2.out HB3.out HO2.out HO3.out hs0 hs1⟩
   case rest =>
    obtain ⟨p, HXc, HBc, HVc⟩ := hcut
    obtain ⟨av, an, ak, kv, kn, kk, rfl⟩ : ∃ av an ak kv kn kk, p = (.slice av an ak, .slice kv kn kk) := by
     obtain ⟨pa, pk⟩ := p
     obtain ⟨aa, ac, e1⟩ := own_slice HVc.out.1
     obtain ⟨ka, kc, e2⟩ := own_slice HVc.out.2.1
     simp only at e1 e2
     exact ⟨_, _, _, _, _, _, by rw [e1, e2]⟩
    have HST2 : Hid (CyS w (set8 wc w.heap.size (i * 8) (slotCells s (.slice av an ak, .slice kv kn kk))) S (i + 1) (L ++ [(.slice av an ak, .slice kv kn kk)]) (lset xs (i * 8) (slotCells s (.slice av an ak, .slice kv kn kk)))) := hst.out.step HS.out HBc.out HVc.out
    have hcs : ∀ o, wc.cell? ⟨w1.heap.size, o, none⟩ = (slotCells s (.slice av an ak, .slice kv kn kk)).toArray[o]? := HXc.out.cell
    have x0 := hcs 0
    have x1 := hcs 1
    have x2 := hcs 2
    have x3 := hcs 3
    have x4 := hcs 4
    have x5 := hcs 5
    have x6 := hcs 6
    have x7 := hcs 7
    simp [slotCells] at x0 x1 x2 x3 x4 x5 x6 x7
    have hown := own_of_block (w' := wc) hst.out.own (fun k hk => HBc.out.block k (own_block_lt hst.out.own k hk).2)
    have hgl := (own_block_lt hown w.heap.size rfl).2
    have hfz := (own_wr hown (g := w.heap.size) rfl).frozen
    have hgc : ∀ j, j < 8 -> ∃ u, wc.cell? ⟨w.heap.size, i * 8 + j, none⟩ = some u := fun j hj => by
     obtain ⟨u, hu⟩ : ∃ u, xs[i * 8 + j]? = some u := ⟨_, List.getElem?_eq_getElem (by rw [hown.1]; omega)⟩
     obtain ⟨g', e', _, _, hc⟩ := (row_cell hown).2.2 _ u hu
     cases e'
     exact ⟨u, hc⟩
    obtain ⟨u0, g0⟩ := hgc 0 (by omega)
    obtain ⟨u1, g1⟩ := hgc 1 (by omega)
    obtain ⟨u2, g2⟩ := hgc 2 (by omega)
    obtain ⟨u3, g3⟩ := hgc 3 (by omega)
    obtain ⟨u4, g4⟩ := hgc 4 (by omega)
    obtain ⟨u5, g5⟩ := hgc 5 (by omega)
    obtain ⟨u6, g6⟩ := hgc 6 (by omega)
    obtain ⟨u7, g7⟩ := hgc 7 (by omega)
    simp only [Nat.add_zero] at g0
    have hi1 : (i : Int) < ((S.length : Nat) : Int) := by omega
    have hi0 : (0 : Int) <= (i : Int) := by omega
    clear hcs hown hgc HXc HBc HVc HX HBX HFA HFH HB0 HAT HKT HB1 HS
    go_wp2
    go_roundw
    case rel => exact ⟨i + 1, _, _, by omega, by go_num, HST2⟩
    case measure => simp [intOf]; omega
  ·have hie : i = S.length := by omega
   subst hie
   clear HCL hlt
   go_wp2
   go_ret
   exact ⟨L, xs, rfl, hst.out⟩
theorem WF.caps {D : Dc} (hw : WF D) {i : Nat} {s : Sl} (hs : D.S[i]? = some s) : s.attrs.length <= 32 /\ s.kids.length <= 4096 := by
 cases hl : s.live with
 | false =>
  rw [hw.dead i s hs hl]
  simp [zeroSl]
 | true =>
  have hi := (List.getElem?_eq_some_iff.1 hs).1
  have hlen := hw.fits.len
  have hsl : sl D (hnd i s.gen) = some s := by unfold sl; rw [atI_hnd hs hl (by omega)]; exact hs
  generalize hnd i s.gen = h at hsl
  have h1 := hw.alen hsl
  have h2 := lst_len hw (.inr ⟨s, hsl⟩ : h = 0 \/ ∃ s, sl D h = some s)
  rw [lst_of hsl] at h2
  exact ⟨h1, h2⟩
def PslP (w : World) (S : List Sl) (e : Ending) (w' : World) : Prop :=
 ∃ a, e = .returned (.slice a S.length S.length) /\ SlotsAt w' (Fw w' w.heap.size) a S /\ Below w.heap.size w w'
theorem pslots_any (w : World) (R : Nat -> Prop) (db : Nat) (D : Dc) (hv : View w R db D) (hw : WF D) :
  Calls Tryz.prog 39 #[.pointer (some ⟨db, 0, none⟩)] w (PslP w D.S) := by
 obtain ⟨sa, scap, hz0, hsc, hsl⟩ := hv.head
 have hdl := hv.lt db hv.docs
 have hlen := hw.fits.len
 have hB : (w.alloc (.cells #[.pointer (some ⟨db, 0, none⟩)] 27)).cell? ⟨w.heap.size, 0, none⟩ = some (.pointer (some ⟨db, 0, none⟩)) := (isCells_new w _ _).cell 0
 have hcal := cy_any (w.alloc (.cells #[.pointer (some ⟨db, 0, none⟩)] 27)) R w.heap.size D.S (fun b hb => by have := hv.lt b hb; simp; omega) hlen (fun i s hs => by have := hw.caps hs; omega) (fun i s hs W hb => cs1_any W R db w.heap.size i D s ((hb.cell (p := ⟨w.heap.size, 0, none⟩) (by simp)).trans hB) ((hv.below (below_new' w _)).below hb) hs)
 have HB0 : Hid (Below w.heap.size w (w.alloc (.cells #[.pointer (some ⟨db, 0, none⟩)] 27))) := below_new' w _
 clear hsl hB hv hw
 generalize D.S = S at *
 go_enter Tryz.func39, Tryz.ntmps39
 go_wp2_with fail
 refine hcal.mono ?_
 rintro e w1 ⟨L, xs, rfl, hst⟩
 have hsl : SlotsAt w1 (Fw w1 w.heap.size) (some ⟨w.heap.size + 1, 0, none⟩) S := by
  have := hst.done
  rw [World.size_alloc] at this
  exact this.to (fun b hb => hb.low (by omega)) (fun _ _ _ => rfl)
 have hb := hst.bel
 go_wp2
 go_ret
 exact ⟨_, rfl, hsl, HB0.out.trans (hb.mono (by simp))⟩
def ImgP (w : World) (D : Dc) (e : Ending) (w' : World) : Prop :=
 ∃ sa sc ra rc, e = .returned (.agg #[.slice sa D.S.length sc, .slice ra D.roots.length rc]) /\ D.S.length <= sc /\ D.roots.length <= rc /\ SlotsAt w' (Fw w' w.heap.size) sa D.S /\ HandsAt w' (Fw w' w.heap.size) ra D.roots /\ Below w.heap.size w w'
theorem pimage_any (w : World) (R : Nat -> Prop) (db : Nat) (D : Dc) (hv : View w R db D) (hw : WF D) :
  Calls Tryz.prog 15 #[.pointer (some ⟨db, 0, none⟩)] w (ImgP w D) := by
 obtain ⟨ra, rcap, hz1, hrc, hra⟩ := hv.roots
 have hdl := hv.lt db hv.docs
 have hrl := (roots_len hw).1
 have HSL : Hid (∀ W, Below w.heap.size w W -> Calls Tryz.prog 39 #[.pointer (some ⟨db, 0, none⟩)] W (PslP W D.S)) := fun W hb => pslots_any W R db D (hv.below hb) hw
 have HFH : Hid (∀ W, Below w.heap.size w W -> Calls Tryz.prog 35 #[.slice ra D.roots.length rcap] W (FrP W 42 1 D.roots.length (hvals D.roots))) := fun W hb => freshH_any W R ra D.roots rcap (hra.to (fun _ h => h) (fun b o hb' => hb.cell (p := ⟨b, o, none⟩) (hv.lt b hb'))) (by omega)
 obtain ⟨W0, hW0⟩ : ∃ W0, W0 = w.alloc (.cells #[.slice none 0 0, .slice none 0 0] 25) := ⟨_, rfl⟩
 have HB0 : Hid (Below w.heap.size w W0) := by rw [hW0]; exact below_new' w _
 have hs0 : W0.heap.size = w.heap.size + 1 := by rw [hW0]; simp
 have HX0 : Hid (IsCells W0 w.heap.size #[.slice none 0 0, .slice none 0 0]) := by rw [hW0]; exact isCells_new w _ _
 have HW0 : Hid (W0 = w.alloc (.cells #[.slice none 0 0, .slice none 0 0] 25)) := hW0
 clear hv hw hra hW0
 go_enter Tryz.func15, Tryz.ntmps15
 go_wp2
 rw [<- HW0.out]
 clear HW0
 have hsl := HSL.out W0.drew HB0.out.drew
 have q1 : W0.drew.cell? ⟨db, 1, none⟩ = some (.slice ra D.roots.length rcap) := (HB0.out.drew.cell (p := ⟨db, 1, none⟩) hdl).trans hz1
 go_region_held3 (fun W => W.cell? ⟨db, 1, none⟩ = some (.slice ra D.roots.length rcap)) (go_keep)
  (first
   | (go_at_call 39; refine hsl.mono ?_; rintro e w1 ⟨a, rfl, hsl1, hb1⟩; have hb1' : Below W0.heap.size W0 w1 := (Below.refl _ _).drew.trans hb1; have hs1 := hb1'.size; have k1 : w1.cell? ⟨db, 1, none⟩ = some (.slice ra D.roots.length rcap) := ((HB0.out.trans (hb1'.mono (by omega))).cell (p := ⟨db, 1, none⟩) hdl).trans hz1; have hfh := HFH.out w1 (HB0.out.trans (hb1'.mono (by omega))); have HSA : Hid (SlotsAt w1 (Fw w1 W0.heap.size) a D.S) := hsl1; have HB1 : Hid (Below W0.heap.size W0 w1) := hb1'; clear hb1 hb1' hsl1)
   | (go_at_call 35; refine hfh.mono ?_; rintro e w2 ⟨va, vc, rfl, hown2, hb2⟩; have hs2 := hb2.size; have k2 : w2.cell? ⟨db, 1, none⟩ = some (.slice ra D.roots.length rcap) := (hb2.cell (p := ⟨db, 1, none⟩) (by show db < w1.heap.size; omega)).trans k1; have HX2 : Hid (IsCells w2 w.heap.size #[.slice none 0 0, .slice none 0 0]) := (HX0.out.of_block (HB1.out.block _ (by omega))).of_block (hb2.block _ (by omega)); have x0 : w2.cell? ⟨w.heap.size, 0, none⟩ = some (.slice none 0 0) := HX2.out.cell 0; have x1 : w2.cell? ⟨w.heap.size, 1, none⟩ = some (.slice none 0 0) := HX2.out.cell 1; have y0 : w2.frozen? ⟨w.heap.size, 0, none⟩ = false := HX2.out.frozen 0; have y1 : w2.frozen? ⟨w.heap.size, 1, none⟩ = false := HX2.out.frozen 1; have nd : ¬ w.heap.size = db := (by omega); have nd' : ¬ db = w.heap.size := (by omega); have HO2 : Hid (w2.ownsRow w1.heap.size 42 1 (.slice va D.roots.length vc) D.roots.length (hvals D.roots)) := hown2; have HB2 : Hid (Below w1.heap.size w1 w2) := hb2; clear hown2 hb2))
 go_wp2
 refine bodyPost_ret (v := .agg #[.slice a D.S.length D.S.length, .slice va D.roots.length vc]) (by simp [results, Tryz.results15, go_sem, x0, x1]) rfl ⟨a, D.S.length, va, vc, rfl, Nat.le_refl _, (row_cell HO2.out).1, ?_⟩
 have ht : Turn (fun b => b = w.heap.size) w2 ((w2.setCell ⟨w.heap.size, 0, none⟩ (.slice a D.S.length D.S.length)).setCell ⟨w.heap.size, 1, none⟩ (.slice va D.roots.length vc)) := ((Turn.refl (fun b => b = w.heap.size) w2).setCell (A := fun b => b = w.heap.size) (p := ⟨w.heap.size, 0, none⟩) rfl _).setCell (A := fun b => b = w.heap.size) (p := ⟨w.heap.size, 1, none⟩) rfl _
 refine ⟨HSA.out.to (fun b hb => ?_) (fun b o hb => ?_), (hands_own HO2.out).to (fun b hb => ?_) (fun b o hb => ?_), ((HB0.out.trans (HB1.out.mono (by omega))).trans (HB2.out.mono (by omega))).trans (ht.below (by omega) (fun k hk => by omega))⟩
 ·have h1 := hb.1
  have h2 := hb.2.1
  exact (hb.below HB2.out (Nat.le_refl _)).to (by omega) (ht.block b (by omega) (by omega)) ht.size
 ·have h1 := hb.1
  have h2 := hb.2.1
  exact (World.cell?_of_block (w := w2) (a := ⟨b, o, none⟩) (ht.block b (by omega) (by omega))).trans (HB2.out.cell (p := ⟨b, o, none⟩) h2)
 ·have h1 := hb.2.1
  have h2 := hb.2.2.1
  exact hb.2.to (by omega) (ht.block b (by omega) (by omega)) ht.size
 ·have h1 := hb.2.1
  have h2 := hb.2.2.1
  exact World.cell?_of_block (w := w2) (a := ⟨b, o, none⟩) (ht.block b (by omega) (by omega))
end Go.Proofs.YtnhajpeijkbbeaaGreat
/- The reader of an image: what it holds; find, and the slot at a place. -/
namespace Go.Proofs.YtnhajpeijkbbeaaGreat
open Go.RowKit
set_option maxRecDepth 100000
set_option maxHeartbeats 2000000
set_option linter.unusedVariables false
set_option linter.unusedSimpArgs false
structure Rdr (w : World) (R : Nat -> Prop) (base rb g : Nat) (S : List Sl) (L : List (Value × Value)) (c : Int) (V : Nat -> Bool) : Prop where
 head : IsCells w rb #[.slice (some ⟨g, 0, none⟩) S.length S.length, .int .i64 c]
 row : ∃ cur, IsCells w g cur /\ (∀ (k : Nat) (s : Sl) (p : Value × Value), S[k]? = some s -> L[k]? = some p -> ∀ j u, (slotCells s p)[j]? = some u -> cur[k * 9 + j]? = some u) /\ ∀ k, k < S.length -> cur[k * 9 + 8]? = some (.bool (V k))
 len : L.length = S.length
 vals : ∀ (i : Nat) (s : Sl) (p : Value × Value), S[i]? = some s -> L[i]? = some p -> SlotVals w R s p
 rlt : ∀ b, R b -> b < base
 blt : base <= rb /\ base <= g /\ rb ≠ g
theorem Rdr.bs {w : World} {R : Nat -> Prop} {base rb g : Nat} {S : List Sl} {L : List (Value × Value)} {c : Int} {V : Nat -> Bool} (h : Rdr w R base rb g S L c V) : base <= w.heap.size := by
 have := h.head.lt
 have := h.blt
 omega
theorem Rdr.below {w w' : World} {R : Nat -> Prop} {base rb g : Nat} {S : List Sl} {L : List (Value × Value)} {c : Int} {V : Nat -> Bool} (h : Rdr w R base rb g S L c V) (hb : Below w.heap.size w w') : Rdr w' R base rb g S L c V := by
 obtain ⟨cur, h1, h2, h3⟩ := h.row
 have hbs := h.bs
 exact ⟨h.head.of_block (hb.block _ h.head.lt), ⟨cur, h1.of_block (hb.block _ h1.lt), h2, h3⟩, h.len, fun i s p hs hp => (h.vals i s p hs hp).to (fun _ h => h) (fun b o hb' => hb.cell (p := ⟨b, o, none⟩) (by have := h.rlt b hb'; show b < w.heap.size; omega)), h.rlt, h.blt⟩
theorem slotCells_lt {s : Sl} {p : Value × Value} {j : Nat} {u : Value} (h : (slotCells s p)[j]? = some u) : j < 8 := (List.getElem?_eq_some_iff.1 h).1
theorem Rdr.count {w : World} {R : Nat -> Prop} {base rb g : Nat} {S : List Sl} {L : List (Value × Value)} {c : Int} {V : Nat -> Bool} (h : Rdr w R base rb g S L c V) (c' : Int) : Rdr (w.setCell ⟨rb, 1, none⟩ (.int .i64 c')) R base rb g S L c' V := by
 obtain ⟨cur, h1, h2, h3⟩ := h.row
 have hb := h.blt
 refine ⟨by simpa using h.head.set 1 (.int .i64 c'), ⟨cur, h1.other (fun e => hb.2.2 e.symm) _, h2, h3⟩, h.len, fun k s p hs hp => (h.vals k s p hs hp).to (fun _ h => h) (fun b o hb' => World.cell?_of_block (w := w) (a := ⟨b, o, none⟩) (Below.heap_setCell _ _ _ _ (by have := h.rlt b hb'; show b ≠ rb; omega))), h.rlt, h.blt⟩
theorem Rdr.slot {w : World} {R : Nat -> Prop} {base rb g : Nat} {S : List Sl} {L : List (Value × Value)} {c : Int} {V : Nat -> Bool} (h : Rdr w R base rb g S L c V) {i : Nat} {s : Sl} (hs : S[i]? = some s) :
  ∃ aa ac ka kc, w.cell? ⟨g, i * 9, none⟩ = some (.int .u32 (s.gen : Int)) /\ w.cell? ⟨g, i * 9 + 1, none⟩ = some (.bool s.live) /\ w.cell? ⟨g, i * 9 + 2, none⟩ = some (.int .i64 s.kind) /\ w.cell? ⟨g, i * 9 + 3, none⟩ = some (.string s.name) /\
  w.cell? ⟨g, i * 9 + 4, none⟩ = some (.slice aa s.attrs.length ac) /\ w.cell? ⟨g, i * 9 + 5, none⟩ = some (.string s.text) /\ w.cell? ⟨g, i * 9 + 6, none⟩ = some (.int .u64 (s.parent : Int)) /\ w.cell? ⟨g, i * 9 + 7, none⟩ = some (.slice ka s.kids.length kc) /\ w.cell? ⟨g, i * 9 + 8, none⟩ = some (.bool (V i)) /\
  s.attrs.length <= ac /\ s.kids.length <= kc /\ AttrsR w R aa s.attrs /\ HandsAt w R ka s.kids := by
 obtain ⟨cur, h1, h2, h3⟩ := h.row
 have hi := (List.getElem?_eq_some_iff.1 hs).1
 obtain ⟨p, hp⟩ : ∃ p, L[i]? = some p := ⟨_, List.getElem?_eq_getElem (by rw [h.len]; exact hi)⟩
 obtain ⟨aa, ac, ka, kc, rfl, l1, l2, ha, hk⟩ := h.vals i s p hs hp
 have hc := fun j u (hu : (slotCells s (.slice aa s.attrs.length ac, .slice ka s.kids.length kc))[j]? = some u) => (h1.cell (i * 9 + j)).trans (h2 i s _ hs hp j u hu)
 exact ⟨aa, ac, ka, kc, hc 0 _ rfl, hc 1 _ rfl, hc 2 _ rfl, hc 3 _ rfl, hc 4 _ rfl, hc 5 _ rfl, hc 6 _ rfl, hc 7 _ rfl, (h1.cell _).trans (h3 i hi), l1, l2, ha, hk⟩
def mk (D : Dc) (vs : List Nat) (k : Nat) : Bool := vs.any fun x => atI D.S x == some k
theorem Rdr.congr {w : World} {R : Nat -> Prop} {base rb g : Nat} {S : List Sl} {L : List (Value × Value)} {c c' : Int} {V V' : Nat -> Bool} (h : Rdr w R base rb g S L c V) (hc : c = c') (hV : ∀ k, V k = V' k) : Rdr w R base rb g S L c' V' := by
 have : V = V' := funext hV
 subst this hc
 exact h
theorem Rdr.turn {w w' : World} {R : Nat -> Prop} {base rb g : Nat} {S : List Sl} {L : List (Value × Value)} {c : Int} {V : Nat -> Bool} (h : Rdr w R base rb g S L c V) {a : Option Addr} {l : List Nat} (hl : HandsAt w R a l) (ht : Turn (fun b => b = rb \/ b = g) w w') : HandsAt w' R a l :=
 hl.to (fun _ h => h) (fun b o hb => World.cell?_of_block (w := w) (a := ⟨b, o, none⟩) (ht.block b (by have := h.rlt b hb; have := h.bs; omega) (by have := h.rlt b hb; have := h.blt; omega)))
end Go.Proofs.YtnhajpeijkbbeaaGreat
/- All nodes are just the live ones: how many there are. -/
namespace Go.Proofs.YtnhajpeijkbbeaaGreat
open Go.RowKit
set_option maxRecDepth 100000
set_option maxHeartbeats 2000000
set_option linter.unusedVariables false
set_option linter.unusedSimpArgs false
def aset (xs : Array Value) (j : Nat) : List Value -> Array Value
 | [] => xs
 | x :: r => aset (xs.setIfInBounds j x) (j + 1) r
theorem cells_set8 {g : Nat} : ∀ (l : List Value) (w : World) (j : Nat) (xs : Array Value), IsCells w g xs -> IsCells (set8 w g j l) g (aset xs j l)
 | [], w, j, xs, h => h
 | x :: r, w, j, xs, h => cells_set8 r _ _ _ (h.set j x)
theorem aset_size : ∀ (l : List Value) (xs : Array Value) (j : Nat), (aset xs j l).size = xs.size
 | [], xs, j => rfl
 | x :: r, xs, j => by rw [aset, aset_size r]; simp
theorem aset_out : ∀ (l : List Value) (xs : Array Value) (j k : Nat), k < j \/ j + l.length <= k -> (aset xs j l)[k]? = xs[k]?
 | [], xs, j, k, h => rfl
 | x :: r, xs, j, k, h => by
  simp only [List.length_cons] at h
  rw [aset, aset_out r _ _ _ (by omega), Array.getElem?_setIfInBounds_ne (by omega)]
theorem aset_in : ∀ (l : List Value) (xs : Array Value) (j k : Nat), k < l.length -> j + l.length <= xs.size -> (aset xs j l)[j + k]? = l[k]?
 | [], xs, j, k, h, h2 => by simp at h
 | x :: r, xs, j, 0, h, h2 => by
  simp only [List.length_cons] at h2
  rw [aset, aset_out r _ _ _ (by omega), Nat.add_zero, Array.getElem?_setIfInBounds_self_of_lt (by omega)]
  rfl
 | x :: r, xs, j, k + 1, h, h2 => by
  simp only [List.length_cons] at h h2
  rw [aset, show j + (k + 1) = j + 1 + k from by omega, aset_in r _ _ _ (by omega) (by simp; omega)]
  rfl
structure LdS (w wr : World) (bx : Array Value) (rb g : Nat) (S : List Sl) (L : List (Value × Value)) (i : Nat) : Prop where
 box : IsCells wr w.heap.size bx
 head : IsCells wr rb #[.slice (some ⟨g, 0, none⟩) S.length S.length, .int .i64 0]
 row : ∃ cur, IsCells wr g cur /\ cur.size = S.length * 9 /\ (∀ (k : Nat) (s : Sl) (p : Value × Value), k < i -> S[k]? = some s -> L[k]? = some p -> ∀ j u, (slotCells s p)[j]? = some u -> cur[k * 9 + j]? = some u) /\ ∀ k, k < S.length -> cur[k * 9 + 8]? = some (.bool false)
 bel : Below w.heap.size w wr
 ne : g = w.heap.size + 1 /\ rb = w.heap.size + 1 + 1
theorem LdS.step {w wr w5 : World} {bx : Array Value} {rb g : Nat} {S : List Sl} {L : List (Value × Value)} {i : Nat} (h : LdS w wr bx rb g S L i) {s : Sl} {p : Value × Value} (hs : S[i]? = some s) (hp : L[i]? = some p) (hb : Below wr.heap.size wr w5) : LdS w (set8 w5 g (i * 9) (slotCells s p)) bx rb g S L (i + 1) := by
 obtain ⟨cur, c1, c2, c3, c4⟩ := h.row
 have ht := turn_set8 (g := g) (slotCells s p) w5 (i * 9)
 have hne := h.ne
 have hi := (List.getElem?_eq_some_iff.1 hs).1
 have hsl : (slotCells s p).length = 8 := rfl
 have hbl := h.bel.size
 have hss := hb.size
 refine ⟨(h.box.of_block (hb.block _ h.box.lt)).of_block (ht.block _ (by have := h.box.lt; omega) (by omega)), (h.head.of_block (hb.block _ h.head.lt)).of_block (ht.block _ (by have := h.head.lt; omega) (by omega)), ⟨_, cells_set8 _ _ _ _ (c1.of_block (hb.block _ c1.lt)), by rw [aset_size, c2], fun k s' p' hk hs' hp' j u hu => ?_, fun k hk => ?_⟩, (h.bel.trans (hb.mono hbl)).trans (ht.below (by omega) (fun k hk => by omega)), h.ne⟩
 ·have hj := slotCells_lt hu
  by_cases e : k = i
  ·subst e
   rw [hs] at hs'
   rw [hp] at hp'
   cases hs'
   cases hp'
   rw [aset_in _ _ _ _ (by rw [hsl]; exact hj) (by rw [hsl, c2]; omega)]
   exact hu
  ·rw [aset_out _ _ _ _ (by rw [hsl]; omega)]
   exact c3 k s' p' (by omega) hs' hp' j u hu
 ·rw [aset_out _ _ _ _ (by rw [hsl]; omega)]
  exact c4 k hk
end Go.Proofs.YtnhajpeijkbbeaaGreat
/- What is spoilt: cells keep what sort they are of, lists at most become none. -/
namespace Go.Proofs.YtnhajpeijkbbeaaGreat
open Go.RowKit
set_option maxRecDepth 100000
set_option maxHeartbeats 2000000
set_option linter.unusedVariables false
set_option linter.unusedSimpArgs false
def Bt (v x : Value) : Prop :=
 (∃ a b, v = .string a /\ x = .string b) \/ (∃ k a b, v = .int k a /\ x = .int k b) \/ (∃ a b, v = .bool a /\ x = .bool b) \/ (∃ a n c, v = .slice a n c /\ x = .slice none 0 0)
def Wk (v x : Value) : Prop := x = v \/ Bt v x
theorem Bt.next {v x y : Value} (h : Bt v x) (k : Bt v y) : Bt x y := by
 rcases h with ⟨a, b, rfl, rfl⟩ | ⟨q, a, b, rfl, rfl⟩ | ⟨a, b, rfl, rfl⟩ | ⟨a, n, c, rfl, rfl⟩ <;> rcases k with ⟨a', b', e, rfl⟩ | ⟨q', a', b', e, rfl⟩ | ⟨a', b', e, rfl⟩ | ⟨a', n', c', e, rfl⟩ <;> first | cases e | skip
 ·exact .inl ⟨_, _, rfl, rfl⟩
 ·exact .inr (.inl ⟨_, _, _, rfl, rfl⟩)
 ·exact .inr (.inr (.inl ⟨_, _, rfl, rfl⟩))
 ·exact .inr (.inr (.inr ⟨_, _, _, rfl, rfl⟩))
theorem Bt.trans {v x y : Value} (h : Bt v x) (k : Bt x y) : Bt v y := by
 rcases h with ⟨a, b, rfl, rfl⟩ | ⟨q, a, b, rfl, rfl⟩ | ⟨a, b, rfl, rfl⟩ | ⟨a, n, c, rfl, rfl⟩ <;> rcases k with ⟨a', b', e, rfl⟩ | ⟨q', a', b', e, rfl⟩ | ⟨a', b', e, rfl⟩ | ⟨a', n', c', e, rfl⟩ <;> first | cases e | skip
 ·exact .inl ⟨_, _, rfl, rfl⟩
 ·exact .inr (.inl ⟨_, _, _, rfl, rfl⟩)
 ·exact .inr (.inr (.inl ⟨_, _, rfl, rfl⟩))
 ·exact .inr (.inr (.inr ⟨_, _, _, rfl, rfl⟩))
theorem Wk.trans {v x y : Value} (h : Wk v x) (k : Wk x y) : Wk v y := by
 rcases h with rfl | h
 ·exact k
 ·rcases k with rfl | k
  ·exact .inr h
  ·exact .inr (h.trans k)
theorem Wk.bt {v x y : Value} (h : Wk v x) (k : Bt v y) : Bt x y := by
 rcases h with rfl | h
 ·exact k
 ·exact h.next k
theorem Wk.str {a : ByteArray} {x : Value} (h : Wk (.string a) x) : ∃ b, x = .string b := by
 rcases h with rfl | ⟨a, b, e, rfl⟩ | ⟨q, a, b, e, rfl⟩ | ⟨a, b, e, rfl⟩ | ⟨a, n, c, e, rfl⟩ <;> first | cases e | skip
 ·exact ⟨_, rfl⟩
 ·exact ⟨_, rfl⟩
theorem Wk.int {k : IntKind} {a : Int} {x : Value} (h : Wk (.int k a) x) : ∃ b, x = .int k b := by
 rcases h with rfl | ⟨a, b, e, rfl⟩ | ⟨q, a, b, e, rfl⟩ | ⟨a, b, e, rfl⟩ | ⟨a, n, c, e, rfl⟩ <;> first | cases e | skip
 ·exact ⟨_, rfl⟩
 ·exact ⟨_, rfl⟩
theorem Wk.bool {a : Bool} {x : Value} (h : Wk (.bool a) x) : ∃ b, x = .bool b := by
 rcases h with rfl | ⟨a, b, e, rfl⟩ | ⟨q, a, b, e, rfl⟩ | ⟨a, b, e, rfl⟩ | ⟨a, n, c, e, rfl⟩ <;> first | cases e | skip
 ·exact ⟨_, rfl⟩
 ·exact ⟨_, rfl⟩
theorem Wk.slice {a : Option Addr} {n c : Nat} {x : Value} (h : Wk (.slice a n c) x) : x = .slice a n c \/ x = .slice none 0 0 := by
 rcases h with rfl | ⟨a, b, e, rfl⟩ | ⟨q, a, b, e, rfl⟩ | ⟨a, b, e, rfl⟩ | ⟨a, n, c, e, rfl⟩ <;> first | cases e | skip
 ·exact .inl rfl
 ·exact .inr rfl
structure Sv (R : Nat -> Prop) (w w' : World) : Prop where
 turn : Turn R w w'
 wr : ∀ b, R b -> Wr w b -> Wr w' b
 keep : ∀ b o v, R b -> Wr w b -> w.cell? ⟨b, o, none⟩ = some v -> ∃ v', w'.cell? ⟨b, o, none⟩ = some v' /\ Wk v v'
theorem Sv.refl (R : Nat -> Prop) (w : World) : Sv R w w := ⟨Turn.refl _ _, fun _ _ h => h, fun b o v _ _ h => ⟨v, h, .inl rfl⟩⟩
theorem Sv.trans {R : Nat -> Prop} {a b c : World} (h : Sv R a b) (k : Sv R b c) : Sv R a c := by
 refine ⟨h.turn.trans k.turn, fun b hb hw => k.wr b hb (h.wr b hb hw), fun b o v hb hw hc => ?_⟩
 obtain ⟨v1, h1, h2⟩ := h.keep b o v hb hw hc
 obtain ⟨v2, h3, h4⟩ := k.keep b o v1 hb (h.wr b hb hw) h1
 exact ⟨v2, h3, h2.trans h4⟩
theorem Wr.lt {w : World} {b : Nat} (h : Wr w b) : b < w.heap.size := by obtain ⟨cs, h⟩ := h; exact h.lt
theorem Sv.below {R : Nat -> Prop} {w w' : World} (h : Below w.heap.size w w') : Sv R w w' :=
 ⟨⟨h.os, h.tape, h.output, h.size, fun k hk _ => h.block k hk⟩, fun b _ hw => hw.of_block (h.block b hw.lt), fun b o v _ hw hc => ⟨v, (h.cell (p := ⟨b, o, none⟩) hw.lt).trans hc, .inl rfl⟩⟩
theorem Sv.alloc {R : Nat -> Prop} {a w : World} (h : Sv R a w) (o : Obj) : Sv R a (w.alloc o) := h.trans (Sv.below ((Below.refl _ _).alloc (Nat.le_refl _) _))
theorem Sv.set1 {R : Nat -> Prop} {w : World} {b o : Nat} {v x : Value} (hb : R b) (hw : Wr w b) (hc : w.cell? ⟨b, o, none⟩ = some v) (hx : Bt v x) : Sv R w (w.setCell ⟨b, o, none⟩ x) := by
 refine ⟨(Turn.refl _ _).setCell (p := ⟨b, o, none⟩) hb _, fun b' _ h => h.setCell _ _ _, fun b' o' v' _ hw' hc' => ?_⟩
 obtain ⟨cs, hcs⟩ := hw
 by_cases e : b' = b
 ·subst e
  rw [(hcs.set o x).cell]
  rw [hcs.cell] at hc hc'
  by_cases eo : o' = o
  ·subst eo
   rw [hc] at hc'
   cases hc'
   have hlt := (Array.getElem?_eq_some_iff.1 hc).1
   exact ⟨x, by simp [hlt], .inr hx⟩
  ·exact ⟨v', by rw [Array.getElem?_setIfInBounds_ne (Ne.symm eo)]; exact hc', .inl rfl⟩
 ·obtain ⟨cs', hcs'⟩ := hw'
  exact ⟨v', by rw [(hcs'.other (a := ⟨b, o, none⟩) e x).cell, <- hcs'.cell]; exact hc', .inl rfl⟩
theorem Sv.put {R : Nat -> Prop} {w wr : World} (h : Sv R w wr) {b o : Nat} {v x : Value} (hb : R b) (hw : Wr w b) (hc : w.cell? ⟨b, o, none⟩ = some v) (hx : Bt v x) : Sv R w (wr.setCell ⟨b, o, none⟩ x) := by
 obtain ⟨v', h1, h2⟩ := h.keep b o v hb hw hc
 exact h.trans (Sv.set1 hb (h.wr b hb hw) h1 (h2.bt hx))
theorem Bt.s (a b : ByteArray) : Bt (.string a) (.string b) := .inl ⟨_, _, rfl, rfl⟩
theorem Bt.i (k : IntKind) (a b : Int) : Bt (.int k a) (.int k b) := .inr (.inl ⟨_, _, _, rfl, rfl⟩)
theorem Bt.b (a b : Bool) : Bt (.bool a) (.bool b) := .inr (.inr (.inl ⟨_, _, rfl, rfl⟩))
theorem Bt.l (a : Option Addr) (n c : Nat) : Bt (.slice a n c) (.slice none 0 0) := .inr (.inr (.inr ⟨_, _, _, rfl, rfl⟩))
def AW (w : World) (R : Nat -> Prop) (a : Option Addr) (n : Nat) : Prop :=
 ∀ i, i < n -> ∃ b o x y, a = some ⟨b, o, none⟩ /\ R b /\ w.cell? ⟨b, o + i * 2, none⟩ = some (.string x) /\ w.cell? ⟨b, o + i * 2 + 1, none⟩ = some (.string y)
def HW (w : World) (R : Nat -> Prop) (a : Option Addr) (n : Nat) : Prop :=
 ∀ i, i < n -> ∃ b o x, a = some ⟨b, o, none⟩ /\ R b /\ w.cell? ⟨b, o + i, none⟩ = some (.int .u64 x)
def WT (w : World) (R : Nat -> Prop) : Nat -> Array Value -> Prop
 | 0, _ => False
 | n + 1, v => ∃ k nm a al ac tx ka kl kc, v = #[.int .i64 k, .string nm, .slice a al ac, .string tx, .slice ka kl kc] /\ al <= maxA /\ kl <= maxK /\ al <= ac /\ kl <= kc /\ AW w R a al /\
   ∀ i, i < kl -> ∃ (b o : Nat) (u : Array Value), ka = some ⟨b, o, none⟩ /\ R b /\ u.size = 5 /\ (∀ j, j < 5 -> w.cell? ⟨b, o + i * 5 + j, none⟩ = u[j]?) /\ WT w R n u
theorem AttrsR.weak {w : World} {R : Nat -> Prop} {a : Option Addr} {l : List (ByteArray × ByteArray)} (h : AttrsR w R a l) : AW w R a l.length := by
 intro i hi
 obtain ⟨b, o, h1, h2, h3, h4⟩ := h i _ (List.getElem?_eq_getElem hi)
 exact ⟨b, o, _, _, h1, h2, h3, h4⟩
theorem HandsAt.weak {w : World} {R : Nat -> Prop} {a : Option Addr} {l : List Nat} (h : HandsAt w R a l) : HW w R a l.length := by
 intro i hi
 obtain ⟨b, o, h1, h2, h3⟩ := h i _ (List.getElem?_eq_getElem hi)
 exact ⟨b, o, _, h1, h2, h3⟩
theorem TreeR.weak {w : World} {R : Nat -> Prop} : ∀ {n : Nat} {v : Array Value} {t : T n}, TreeR w R n v t -> WT w R n v
 | 0, _, _, h => h.elim
 | n + 1, v, t, h => by
  obtain ⟨a, ac, ka, kc, h1, h2, h3, h4, h5, h6, h7⟩ := h
  refine ⟨_, _, _, _, _, _, _, _, _, h1, h2, h3, h4, h5, h6.weak, fun i hi => ?_⟩
  obtain ⟨b, o, u, g1, g2, g4, g5, g6⟩ := h7 i _ (List.getElem?_eq_getElem hi)
  exact ⟨b, o, u, g1, g2, g4, g5, TreeR.weak g6⟩
theorem AW.nil (w : World) (R : Nat -> Prop) (a : Option Addr) : AW w R a 0 := fun i hi => by omega
theorem HW.nil (w : World) (R : Nat -> Prop) (a : Option Addr) : HW w R a 0 := fun i hi => by omega
theorem Sv.aw {R : Nat -> Prop} {w w' : World} (s : Sv R w w') (hR : ∀ b, R b -> Wr w b) {a : Option Addr} {n : Nat} (h : AW w R a n) : AW w' R a n := by
 intro i hi
 obtain ⟨b, o, x, y, h1, h2, h3, h4⟩ := h i hi
 obtain ⟨v1, c1, k1⟩ := s.keep _ _ _ h2 (hR b h2) h3
 obtain ⟨v2, c2, k2⟩ := s.keep _ _ _ h2 (hR b h2) h4
 obtain ⟨x', rfl⟩ := k1.str
 obtain ⟨y', rfl⟩ := k2.str
 exact ⟨b, o, _, _, h1, h2, c1, c2⟩
theorem Sv.hw {R : Nat -> Prop} {w w' : World} (s : Sv R w w') (hR : ∀ b, R b -> Wr w b) {a : Option Addr} {n : Nat} (h : HW w R a n) : HW w' R a n := by
 intro i hi
 obtain ⟨b, o, x, h1, h2, h3⟩ := h i hi
 obtain ⟨v1, c1, k1⟩ := s.keep _ _ _ h2 (hR b h2) h3
 obtain ⟨x', rfl⟩ := k1.int
 exact ⟨b, o, _, h1, h2, c1⟩
theorem WT.form {w : World} {R : Nat -> Prop} {n : Nat} {v : Array Value} (h : WT w R n v) : ∃ k nm a al ac tx ka kl kc, v = #[.int .i64 k, .string nm, .slice a al ac, .string tx, .slice ka kl kc] := by
 cases n with
 | zero => exact h.elim
 | succ n => obtain ⟨k, nm, a, al, ac, tx, ka, kl, kc, h1, _⟩ := h; exact ⟨_, _, _, _, _, _, _, _, _, h1⟩
theorem WT.less {w : World} {R : Nat -> Prop} {n : Nat} {k : Int} {nm : ByteArray} {a : Option Addr} {al ac : Nat} {tx : ByteArray} {ka : Option Addr} {kl kc : Nat} (h : WT w R n #[.int .i64 k, .string nm, .slice a al ac, .string tx, .slice ka kl kc])
  (k' : Int) (nm' tx' : ByteArray) {a' : Option Addr} {al' ac' : Nat} {ka' : Option Addr} {kl' kc' : Nat} (h1 : Value.slice a' al' ac' = .slice a al ac \/ Value.slice a' al' ac' = .slice none 0 0) (h2 : Value.slice ka' kl' kc' = .slice ka kl kc \/ Value.slice ka' kl' kc' = .slice none 0 0) :
  WT w R n #[.int .i64 k', .string nm', .slice a' al' ac', .string tx', .slice ka' kl' kc'] := by
 cases n with
 | zero => exact h.elim
 | succ n =>
  obtain ⟨k1, nm1, a1, al1, ac1, tx1, ka1, kl1, kc1, e, g1, g2, g3, g4, g5, g6⟩ := h
  simp only [Array.mk.injEq, List.cons.injEq, Value.int.injEq, Value.string.injEq, Value.slice.injEq, true_and, and_true] at e
  obtain ⟨rfl, rfl, ⟨rfl, rfl, rfl⟩, rfl, ⟨rfl, rfl, rfl⟩⟩ := e
  have ha : al' <= maxA /\ al' <= ac' /\ AW w R a' al' := by
   rcases h1 with h1 | h1 <;> cases h1
   ·exact ⟨g1, g3, g5⟩
   ·exact ⟨Nat.zero_le _, Nat.zero_le _, AW.nil _ _ _⟩
  have hk : kl' <= maxK /\ kl' <= kc' /\ ∀ i, i < kl' -> ∃ (b o : Nat) (u : Array Value), ka' = some ⟨b, o, none⟩ /\ R b /\ u.size = 5 /\ (∀ j, j < 5 -> w.cell? ⟨b, o + i * 5 + j, none⟩ = u[j]?) /\ WT w R n u := by
   rcases h2 with h2 | h2 <;> cases h2
   ·exact ⟨g2, g4, g6⟩
   ·exact ⟨Nat.zero_le _, Nat.zero_le _, fun i hi => by omega⟩
  exact ⟨_, _, _, _, _, _, _, _, _, rfl, ha.1, hk.1, ha.2.1, hk.2.1, ha.2.2, hk.2.2⟩
theorem Sv.wt {R : Nat -> Prop} {w w' : World} (s : Sv R w w') (hR : ∀ b, R b -> Wr w b) : ∀ {n : Nat} {v : Array Value}, WT w R n v -> WT w' R n v
 | 0, _, h => h.elim
 | n + 1, v, h => by
  obtain ⟨k, nm, a, al, ac, tx, ka, kl, kc, e, g1, g2, g3, g4, g5, g6⟩ := h
  refine ⟨k, nm, a, al, ac, tx, ka, kl, kc, e, g1, g2, g3, g4, s.aw hR g5, fun i hi => ?_⟩
  obtain ⟨b, o, u, e1, e2, e3, e4, e5⟩ := g6 i hi
  obtain ⟨k2, nm2, a2, al2, ac2, tx2, ka2, kl2, kc2, rfl⟩ := e5.form
  obtain ⟨v0, c0, k0⟩ := s.keep _ _ _ e2 (hR b e2) (e4 0 (by omega))
  obtain ⟨v1, c1, k1⟩ := s.keep _ _ _ e2 (hR b e2) (e4 1 (by omega))
  obtain ⟨v2, c2, k2'⟩ := s.keep _ _ _ e2 (hR b e2) (e4 2 (by omega))
  obtain ⟨v3, c3, k3⟩ := s.keep _ _ _ e2 (hR b e2) (e4 3 (by omega))
  obtain ⟨v4, c4, k4⟩ := s.keep _ _ _ e2 (hR b e2) (e4 4 (by omega))
  obtain ⟨x0, rfl⟩ := k0.int
  obtain ⟨x1, rfl⟩ := k1.str
  obtain ⟨x3, rfl⟩ := k3.str
  have h2 : ∃ a' n' c', v2 = .slice a' n' c' /\ (Value.slice a' n' c' = .slice a2 al2 ac2 \/ Value.slice a' n' c' = .slice none 0 0) := by
   rcases k2'.slice with rfl | rfl
   ·exact ⟨_, _, _, rfl, .inl rfl⟩
   ·exact ⟨_, _, _, rfl, .inr rfl⟩
  have h4 : ∃ a' n' c', v4 = .slice a' n' c' /\ (Value.slice a' n' c' = .slice ka2 kl2 kc2 \/ Value.slice a' n' c' = .slice none 0 0) := by
   rcases k4.slice with rfl | rfl
   ·exact ⟨_, _, _, rfl, .inl rfl⟩
   ·exact ⟨_, _, _, rfl, .inr rfl⟩
  obtain ⟨a', n', c', rfl, h2⟩ := h2
  obtain ⟨a'', n'', c'', rfl, h4⟩ := h4
  refine ⟨b, o, #[.int .i64 x0, .string x1, .slice a' n' c', .string x3, .slice a'' n'' c''], e1, e2, rfl, fun j hj => ?_, (Sv.wt s hR e5).less x0 x1 x3 h2 h4⟩
  rcases j with _ | _ | _ | _ | _ | j
  ·exact c0
  ·exact c1
  ·exact c2
  ·exact c3
  ·exact c4
  ·omega
theorem spoil_any (w : World) (R : Nat -> Prop) (a : Option Addr) (n c : Nat) (hR : ∀ b, R b -> Wr w b) (h : HW w R a n) (hn : n < 4611686018427387904) : Calls Tryz.prog 54 #[.slice a n c] w (fun e w' => e = .returned (.tuple #[]) /\ Sv R w w') := by
 have HH : Hid (HW w R a n) := h
 have HR : Hid (∀ b, R b -> Wr w b) := hR
 clear h hR
 go_enter Tryz.func54, Tryz.ntmps54
 go_wp2
 go_loopw [2] (fun iv wr => ∃ i : Nat, i <= n /\ iv = .int .i64 (i : Int) /\ Hid (Sv R w wr)) (fun iv _ => n - (intOf iv).toNat)
 case atStart => exact ⟨0, Nat.zero_le _, rfl, Sv.refl _ _⟩
 case round =>
  obtain ⟨i, hi, rfl, HS⟩ := hrel
  by_cases hlt : i < n
  ·obtain ⟨b, o, x, ha, hb, hc⟩ := HH.out i hlt
   subst ha
   have hwb := HS.out.wr b hb (HR.out b hb)
   have hf := hwb.frozen
   have hbl := hwb.lt
   obtain ⟨v', hc', hk'⟩ := HS.out.keep b _ _ hb (HR.out b hb) hc
   obtain ⟨x', rfl⟩ := hk'.int
   have HS2 : Hid (Sv R w (wr.setCell ⟨b, o + i, none⟩ (.int .u64 4711))) := HS.out.put hb (HR.out b hb) hc (Bt.i _ _ _)
   clear hk' hwb hc
   go_wp2
   go_roundw
   case rel => exact ⟨i + 1, by omega, by go_num, HS2⟩
   case measure => simp [intOf]; omega
  ·clear HH
   go_wp2
   go_end0
   exact ⟨rfl, HS.out⟩
end Go.Proofs.YtnhajpeijkbbeaaGreat
