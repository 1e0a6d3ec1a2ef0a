/- The reader in memory; what a call of it leaves. Its smallest steps. -/
import Derived.Test.YtmifejkddgcbmabGreatA11
import Derived.Test.YtmifejkddgcbmabGreatA08
import Derived.Test.YtmifejkddgcbmabGreatA07
import Derived.Lib.Builder
import Derived.Deep.Onto
namespace Go.Proofs.YtmifejkddgcbmabGreat
open Go.RowKit
set_option linter.unusedVariables false
set_option linter.unusedSimpArgs false

def rdC (tx : ByteArray) (s : St) : Array Value := #[.string tx, .int .i64 (s.at_ : Int), .int .i64 (s.nodes : Int), .int .i64 (s.op : Int)]
/-- The reader of a text lies in block b. -/
def Rd (w : World) (b : Nat) (tx : ByteArray) (s : St) : Prop := w.heap[b]? = some (.cells (rdC tx s) 43 (0, 0)) ∧ 0 < b ∧ ∃ m : Int, w.cell? ⟨0, 0, none⟩ = some (.int .i64 m)

/-- The panic with which the reader gives up. -/
def fault (p : Nat) (e : Int) : Ending := .panicked [{ v := .iface 41 (.agg #[.int .i64 (p : Int), .int .i64 e]), recovered := false }]

/-- What a call of the reader leaves: the thing, or the fault. -/
def Post {α : Type} (w : World) (b : Nat) (tx : ByteArray) (A : Nat → Prop) (r : Rs α) (V : α → Ending → World → Prop) (e : Ending) (w' : World) : Prop := match r with
  | .inl (a, s) => V a e w' ∧ Rd w' b tx s ∧ Turn A w w'
  | .inr (p, c) => e = fault p c ∧ Turn A w w'

/-- Where a reader can be. -/
structure Ok (tx : ByteArray) (s : St) : Prop where
  len : tx.size ≤ 262144
  at_ : s.at_ ≤ tx.size
  nodes : s.nodes ≤ 4096
  op : s.op ≤ 64

theorem ba_size (l : Bs) : (ba l).size = l.length := by simp [ba, ByteArray.size]
theorem ba_list (l : Bs) : (ba l).data.toList = l := by simp [ba]
theorem ba_of (s : ByteArray) : ba s.data.toList = s := by simp [ba]

theorem Rd.facts {w : World} {b : Nat} {tx : ByteArray} {s : St} (h : Rd w b tx s) :
    w.cell? ⟨b, 0, none⟩ = some (.string tx) ∧ w.cell? ⟨b, 1, none⟩ = some (.int .i64 (s.at_ : Int)) ∧ w.cell? ⟨b, 2, none⟩ = some (.int .i64 (s.nodes : Int)) ∧ w.cell? ⟨b, 3, none⟩ = some (.int .i64 (s.op : Int)) ∧
    w.frozen? ⟨b, 1, none⟩ = false ∧ w.frozen? ⟨b, 2, none⟩ = false ∧ w.frozen? ⟨b, 3, none⟩ = false ∧ b < w.heap.size := by
  obtain ⟨h, -, -⟩ := h
  refine ⟨?_, ?_, ?_, ?_, ?_, ?_, ?_, (Array.getElem?_eq_some_iff.1 h).1⟩ <;> simp [World.cell?, World.frozen?, h, rdC]
theorem Rd.set {w : World} {b : Nat} {tx : ByteArray} {s : St} (h : Rd w b tx s) (k : Nat) (v : Value) {s' : St} (e : (rdC tx s).setIfInBounds k v = rdC tx s') : Rd (w.setCell ⟨b, k, none⟩ v) b tx s' := by
  obtain ⟨h, h0, m, hm⟩ := h
  refine ⟨?_, h0, m, ?_⟩
  · rw [← e]
    simp [World.setCell, Array.getElem?_modify, h]
  · rw [World.cell?_of_block (w := w) (a := ⟨0, 0, none⟩) (Below.heap_setCell _ _ _ _ (by show 0 ≠ b; omega))]; exact hm
theorem Rd.setAt {w : World} {b : Nat} {tx : ByteArray} {s : St} (h : Rd w b tx s) (n : Nat) {x : Int} (hx : x = (n : Int)) : Rd (w.setCell ⟨b, 1, none⟩ (.int .i64 x)) b tx { s with at_ := n } := h.set 1 _ (by subst hx; simp [rdC])
theorem Rd.setNodes {w : World} {b : Nat} {tx : ByteArray} {s : St} (h : Rd w b tx s) (n : Nat) {x : Int} (hx : x = (n : Int)) : Rd (w.setCell ⟨b, 2, none⟩ (.int .i64 x)) b tx { s with nodes := n } := h.set 2 _ (by subst hx; simp [rdC])
theorem Rd.setOp {w : World} {b : Nat} {tx : ByteArray} {s : St} (h : Rd w b tx s) (n : Nat) {x : Int} (hx : x = (n : Int)) : Rd (w.setCell ⟨b, 3, none⟩ (.int .i64 x)) b tx { s with op := n } := h.set 3 _ (by subst hx; simp [rdC])
theorem Rd.of_block {w w' : World} {b : Nat} {tx : ByteArray} {s : St} (h : Rd w b tx s) (e : w'.heap[b]? = w.heap[b]?) (e0 : w'.heap[0]? = w.heap[0]?) : Rd w' b tx s := by
  obtain ⟨h, h0, m, hm⟩ := h
  exact ⟨e.trans h, h0, m, (World.cell?_of_block (w := w) (a := ⟨0, 0, none⟩) e0).trans hm⟩
theorem Rd.below {w w' : World} {b B : Nat} {tx : ByteArray} {s : St} (h : Rd w b tx s) (hb : Below B w w') (hB : b < B) : Rd w' b tx s := h.of_block (hb.block b hB) (hb.block 0 (by omega))
theorem Rd.drew {w : World} {b : Nat} {tx : ByteArray} {s : St} (h : Rd w b tx s) : Rd w.drew b tx s := h
theorem turn_below {w w' : World} {B : Nat} (A : Nat → Prop) (h : Below B w w') (hB : w.heap.size ≤ B) : Turn A w w' := ⟨h.os, h.tape, h.output, h.size, fun k hk _ => h.block k (by omega)⟩

theorem turn_set {w w1 : World} {b : Nat} (h : Turn (fun x => x = b) w w1) (k : Nat) (v : Value) : Turn (fun x => x = b) w (w1.setCell ⟨b, k, none⟩ v) := h.setCell (p := ⟨b, k, none⟩) rfl v
theorem get_some {tx : ByteArray} {a : Nat} (h : a < tx.size) : tx.data.toList[a]? = some (tx[a]'h) := by
  obtain ⟨h', e⟩ := get_list h
  rw [List.getElem?_eq_getElem h', e]
theorem get_no {tx : ByteArray} {a : Nat} (h : tx.size ≤ a) : tx.data.toList[a]? = none := by
  rw [List.getElem?_eq_none_iff, size_list]; exact h

set_option maxRecDepth 100000 in
theorem fail_any (w : World) (r : Value) (p : Nat) (e : Int) : Calls Tryz.prog 44 #[r, .int .i64 (p : Int), .int .i64 e] w fun x w' => x = fault p e ∧ w' = w := by
  go_enter Tryz.func44, Tryz.ntmps44
  go_wp2
  exact ⟨rfl, rfl, rfl⟩

set_option maxRecDepth 100000 in
theorem need_any (w : World) (b : Nat) (tx : ByteArray) (s : St) (h : Rd w b tx s) (ok : Ok tx s) :
    Calls Tryz.prog 70 #[.pointer (some ⟨b, 0, none⟩)] w (Post w b tx (· = b) (needP tx.data.toList s) fun c e w' => e = .returned (.int .u8 (c.toNat : Int)) ∧ Below w.heap.size w w') := by
  obtain ⟨h0, h1, h2, h3, f1, f2, f3, hb⟩ := h.facts
  obtain ⟨k1, k2, k3, k4⟩ := ok
  have hfl := fun W => fail_any W (.pointer (some ⟨b, 0, none⟩)) s.at_ 4
  by_cases ha : s.at_ < tx.size
  · have hn : needP tx.data.toList s = .inl ((tx[s.at_]'ha), s) := by simp [needP, get_some ha]
    rw [hn]
    have HR : Hid (Rd w b tx s) := h
    have t1 : ((s.at_ : Int) == (tx.size : Int)) = false := by simp; omega
    go_enter Tryz.func70, Tryz.ntmps70
    go_wp2_with (go_region)
    go_ret
    exact ⟨⟨rfl, (Below.refl _ _).drew.drew⟩, HR.out, (Turn.refl _ _).drew.drew⟩
  · have e1 : s.at_ = tx.size := by omega
    have hn : needP tx.data.toList s = .inr (s.at_, 4) := by simp [needP, get_no (Nat.le_of_eq e1.symm)]
    rw [hn]
    have t1 : ((s.at_ : Int) == (tx.size : Int)) = true := by simp; omega
    clear e1 ha hn
    go_enter Tryz.func70, Tryz.ntmps70
    go_wp2_with (go_region)
    refine (hfl _).mono ?_
    rintro e w1 ⟨rfl, rfl⟩
    exact ⟨rfl, rfl, (Turn.refl _ _).drew⟩

theorem u8_ne {a b : UInt8} : ((a.toNat : Int) != (b.toNat : Int)) = !(decide (a = b)) := by
  by_cases h : a = b
  · subst h; simp
  · have : a.toNat ≠ b.toNat := fun e => h (UInt8.toNat_inj.1 e)
    simp [h]; omega

set_option maxRecDepth 100000 in
theorem expect_any (w : World) (b : Nat) (tx : ByteArray) (s : St) (h : Rd w b tx s) (ok : Ok tx s) (c : UInt8) :
    Calls Tryz.prog 42 #[.pointer (some ⟨b, 0, none⟩), .int .u8 (c.toNat : Int)] w (Post w b tx (· = b) (expectP tx.data.toList c s) fun _ e w' => e = .returned (.tuple #[]) ∧ ∃ w1, Below w.heap.size w w1 ∧ w' = w1.setCell ⟨b, 1, none⟩ (.int .i64 (((s.at_ + 1 : Nat)) : Int))) := by
  have hnd := need_any w b tx s h ok
  obtain ⟨h0, h1, h2, h3, f1, f2, f3, hb⟩ := h.facts
  obtain ⟨k1, k2, k3, k4⟩ := ok
  have hfl := fun W => fail_any W (.pointer (some ⟨b, 0, none⟩)) s.at_ 3
  by_cases ha : s.at_ < tx.size
  · have hn : needP tx.data.toList s = .inl ((tx[s.at_]'ha), s) := by simp [needP, get_some ha]
    rw [hn] at hnd
    by_cases hc : tx[s.at_]'ha = c
    · have hn2 : expectP tx.data.toList c s = .inl ((), { s with at_ := s.at_ + 1 }) := by simp [expectP, get_some ha, hc]
      rw [hn2]
      have t1 : (((tx[s.at_]'ha).toNat : Int) != (c.toNat : Int)) = false := by rw [u8_ne]; simp [hc]
      generalize tx[s.at_]'ha = d at *
      clear hn hn2 hc h0 h1 h2 h3 f1 f2 f3
      go_enter Tryz.func42, Tryz.ntmps42
      go_wp2_with fail
      refine hnd.mono ?_
      rintro e w1 ⟨⟨rfl, hbl⟩, hr, -⟩
      obtain ⟨h0, h1, h2, h3, f1, f2, f3, hb1⟩ := hr.facts
      have HR : Hid (Rd w1 b tx s) := hr
      have HB : Hid (Below w.heap.size w w1) := hbl
      clear hr hnd hbl
      go_wp2
      go_end0
      exact ⟨⟨rfl, w1, HB.out, rfl⟩, HR.out.setAt _ (by simp), turn_set (turn_below _ HB.out (Nat.le_refl _)) _ _⟩
    · have hn2 : expectP tx.data.toList c s = .inr (s.at_, 3) := by simp [expectP, get_some ha, hc]
      rw [hn2]
      have t1 : (((tx[s.at_]'ha).toNat : Int) != (c.toNat : Int)) = true := by rw [u8_ne]; simp [hc]
      generalize tx[s.at_]'ha = d at *
      clear hn hn2 hc h0 h1 h2 h3 f1 f2 f3
      go_enter Tryz.func42, Tryz.ntmps42
      go_wp2_with fail
      refine hnd.mono ?_
      rintro e w1 ⟨⟨rfl, hbl⟩, hr, -⟩
      obtain ⟨h0, h1, h2, h3, f1, f2, f3, hb1⟩ := hr.facts
      have HB : Hid (Below w.heap.size w w1) := hbl
      clear hr hnd hbl
      go_wp2_with fail
      refine (hfl _).mono ?_
      rintro e w1 ⟨rfl, rfl⟩
      exact ⟨rfl, rfl, turn_below _ HB.out (Nat.le_refl _)⟩
  · have hn : needP tx.data.toList s = .inr (s.at_, 4) := by simp [needP, get_no (Nat.le_of_not_lt ha)]
    have hn2 : expectP tx.data.toList c s = .inr (s.at_, 4) := by simp [expectP, get_no (Nat.le_of_not_lt ha)]
    rw [hn] at hnd
    rw [hn2]
    clear hn hn2 ha h0 h1 h2 h3 f1 f2 f3
    go_enter Tryz.func42, Tryz.ntmps42
    go_wp2_with fail
    refine hnd.mono ?_
    rintro e w1 ⟨rfl, ht⟩
    exact ⟨rfl, rfl, ht⟩

set_option maxRecDepth 100000 in
theorem begin_any (w : World) (b : Nat) (tx : ByteArray) (s : St) (h : Rd w b tx s) (ok : Ok tx s) (a : Nat) :
    Calls Tryz.prog 68 #[.pointer (some ⟨b, 0, none⟩), .int .i64 (a : Int)] w (Post w b tx (· = b) (beginP s a) fun _ e w' => e = .returned (.tuple #[]) ∧ w' = w.setCell ⟨b, 2, none⟩ (.int .i64 (((s.nodes + 1 : Nat)) : Int))) := by
  obtain ⟨h0, h1, h2, h3, f1, f2, f3, hb⟩ := h.facts
  obtain ⟨k1, k2, k3, k4⟩ := ok
  have hfl := fun W => fail_any W (.pointer (some ⟨b, 0, none⟩)) a 2
  have HR : Hid (Rd w b tx s) := h
  by_cases hn : s.nodes = 4096
  · have hn2 : beginP s a = .inr (a, 2) := by simp [beginP, hn]
    rw [hn2]
    have t1 : ((s.nodes : Int) == 4096) = true := by simp; omega
    clear hn hn2
    go_enter Tryz.func68, Tryz.ntmps68
    go_wp2_with fail
    refine (hfl _).mono ?_
    rintro e w1 ⟨rfl, rfl⟩
    exact ⟨rfl, rfl, Turn.refl _ _⟩
  · have t1 : ((s.nodes : Int) == 4096) = false := by simp; omega
    by_cases hp : s.op = 64
    · have hn2 : beginP s a = .inr (a, 2) := by simp [beginP, hp]
      rw [hn2]
      have t2 : ((s.op : Int) == 64) = true := by simp; omega
      clear hn hn2 hp
      go_enter Tryz.func68, Tryz.ntmps68
      go_wp2_with fail
      refine (hfl _).mono ?_
      rintro e w1 ⟨rfl, rfl⟩
      exact ⟨rfl, rfl, Turn.refl _ _⟩
    · have hn2 : beginP s a = .inl ((), { s with nodes := s.nodes + 1 }) := by simp [beginP, hp, hn]
      rw [hn2]
      have t2 : ((s.op : Int) == 64) = false := by simp; omega
      clear hn hn2 hp
      go_enter Tryz.func68, Tryz.ntmps68
      go_wp2
      go_end0
      exact ⟨⟨rfl, rfl⟩, HR.out.setNodes _ (by simp), turn_set (Turn.refl _ _) _ _⟩

end Go.Proofs.YtmifejkddgcbmabGreat

/- A text that grows: the reader's grow and put. -/
namespace Go.Proofs.YtmifejkddgcbmabGreat
open Go.RowKit
set_option linter.unusedVariables false
set_option linter.unusedSimpArgs false

/-- A text under way: a row of bytes of the call's own. -/
def Own (w : World) (B : Nat) (v : Value) (o : Bs) : Prop := w.ownsRow B 5 1 v o.length (Lib.byteCells o)

theorem Own.ne {w : World} {b B : Nat} {v : Value} {o : Bs} (h : Own w B v o) (hb : b < B) : v.ownBlock ≠ some b := by
  intro e
  have := (World.ownsRow.lt h b e).1
  omega
theorem Own.slice {w : World} {B : Nat} {v : Value} {o : Bs} (h : Own w B v o) : ∃ a cap, v = .slice a o.length cap := by
  rcases h.2 with ⟨rfl, h0⟩ | ⟨g, cap, cur, rfl, _⟩
  · exact ⟨_, _, by rw [h0]⟩
  · exact ⟨_, _, rfl⟩

set_option maxRecDepth 100000 in
theorem grow_any (w : World) (b B : Nat) (tx : ByteArray) (s : St) (h : Rd w b tx s) (hbB : b < B) (hB : B ≤ w.heap.size) (v : Value) (o : Bs) (ho : Own w B v o) (hl : o.length ≤ 16384) (x : ByteArray) (hx : x.size ≤ 16384) (a : Nat) :
    Calls Tryz.prog 91 #[.pointer (some ⟨b, 0, none⟩), v, .string x, .int .i64 (a : Int)] w (Post w b tx (fun k => k = b ∨ B ≤ k) (growP s o x.data.toList a) fun o' e w' => ∃ v', e = .returned v' ∧ Own w' B v' o') := by
  obtain ⟨sa, scap, rfl⟩ := ho.slice
  obtain ⟨i0, hi, hz0, hz1, hz2⟩ := info_parts info5
  have hfl := fun W => fail_any W (.pointer (some ⟨b, 0, none⟩)) a 2
  have hxl := size_list x
  have HR : Hid (Rd w b tx s) := h
  have hlt := h.facts.2.2.2.2.2.2.2
  have HO : Hid (Own w B (.slice sa o.length scap) o) := ho
  clear h
  by_cases hg : 16384 < o.length + x.size
  · have hn : growP s o x.data.toList a = .inr (a, 2) := by simp [growP, hxl, hg]
    rw [hn]
    have t1 : (16384 : Int) < (o.length : Int) + (x.size : Int) := by omega
    clear hn
    go_enter Tryz.func91, Tryz.ntmps91
    go_wp2_with fail
    refine (hfl _).mono ?_
    rintro e w1 ⟨rfl, rfl⟩
    exact ⟨rfl, rfl, Turn.refl _ _⟩
  · have hn : growP s o x.data.toList a = .inl ((o ++ x.data.toList), s) := by simp [growP, hxl, hg]
    rw [hn]
    have t1 : ¬ (16384 : Int) < (o.length : Int) + (x.size : Int) := by omega
    clear hn
    have hown : w.ownsRow B 5 1 (.slice sa o.length scap) o.length (Lib.byteCells o) := ho
    go_enter Tryz.func91, Tryz.ntmps91
    go_wp2_with (at_builtin; refine Lib.wpList_append_own_string _ rfl _ _ 47 9 rfl B 5 i0 Tryz.underlying47 Tryz.underlying9 hi hz0 hz1 hz2 _ _ _ rfl hown x rfl ?c3 ?c4 (by omega) ?_)
    case c3 => unfold maxLen; omega
    case c4 => omega
    intro v' w2 hown' hgrow _
    have HO2 : Hid (Own w2 B v' (o ++ x.data.toList)) := by
      show w2.ownsRow B 5 1 v' _ _
      rw [Lib.byteCells_append, ← Lib.strCells_eq, show (o ++ x.data.toList).length = o.length + x.size by rw [List.length_append, size_list]]
      exact hown'
    have hrow := ho.ne hbB
    have hrow0 := ho.ne (Nat.lt_of_le_of_lt (Nat.zero_le b) hbB)
    have HR2 : Hid (Rd w2 b tx s) := HR.out.of_block (hgrow.block b hlt (fun e => hrow e.symm)) (hgrow.block 0 (by omega) (fun e => hrow0 e.symm))
    have HT : Hid (Turn (fun k => k = b ∨ B ≤ k) w w2) := by
      refine ⟨hgrow.os, hgrow.tape, hgrow.output, hgrow.size, fun k hk hA => hgrow.block k hk ?_⟩
      intro e
      exact hA (.inr (World.ownsRow.lt hown k e.symm).1)
    obtain ⟨va, vcap, rfl⟩ := HO2.out.slice
    clear hown' hgrow hown ho
    go_wp2
    go_ret
    exact ⟨⟨_, rfl, HO2.out⟩, HR2.out, HT.out⟩

/-- What came behind: a call of the reader, seen from further ahead. -/
theorem Post.after {α : Type} {w w1 : World} {b : Nat} {tx : ByteArray} {A A' : Nat → Prop} {r : Rs α} {V : α → Ending → World → Prop} {e : Ending} {w' : World} (h : Post w1 b tx A r V e w') (ht : Turn A' w w1) (hA : ∀ k, k < w.heap.size → A k → A' k) : Post w b tx A' r V e w' := by
  have tt : Turn A w1 w' → Turn A' w w' := fun k => ⟨k.os.trans ht.os, k.tape.trans ht.tape, k.output.trans ht.output, Nat.le_trans ht.size k.size, fun i hi ha => (k.block i (Nat.lt_of_lt_of_le hi ht.size) (fun hx => ha (hA i hi hx))).trans (ht.block i hi ha)⟩
  cases r with
  | inl q_ => obtain ⟨a, s⟩ := q_; exact ⟨h.1, h.2.1, tt h.2.2⟩
  | inr q_ => obtain ⟨p, c⟩ := q_; exact ⟨h.1, tt h.2⟩

theorem Post.yes {α : Type} {w : World} {b : Nat} {tx : ByteArray} {A : Nat → Prop} {r : Rs α} {V : α → Ending → World → Prop} {e : Ending} {w' : World} {a : α} {s : St} (h : r = .inl (a, s)) (hv : V a e w') (hr : Rd w' b tx s) (ht : Turn A w w') : Post w b tx A r V e w' := by
  subst h; exact ⟨hv, hr, ht⟩
theorem Post.no {α : Type} {w : World} {b : Nat} {tx : ByteArray} {A : Nat → Prop} {r : Rs α} {V : α → Ending → World → Prop} {w' : World} {p : Nat} {c : Int} (h : r = .inr (p, c)) (ht : Turn A w w') : Post w b tx A r V (fault p c) w' := by
  subst h; exact ⟨rfl, ht⟩

theorem beginP_ok {s s1 : St} {a : Nat} {u : Unit} (h : beginP s a = .inl (u, s1)) : s1 = { s with nodes := s.nodes + 1 } ∧ s.nodes ≠ 4096 ∧ s.op ≠ 64 := by
  unfold beginP at h
  split at h
  · cases h
  · cases h; exact ⟨rfl, by omega, by omega⟩

set_option maxRecDepth 100000 in
theorem put_any (w : World) (b B : Nat) (tx : ByteArray) (s : St) (h : Rd w b tx s) (ok : Ok tx s) (hbB : b < B) (hB : B ≤ w.heap.size) (v : Value) (o : Bs) (ho : Own w B v o) (hl : o.length ≤ 16384) (x : ByteArray) (hx : x.size ≤ 16384) (a : Nat) :
    Calls Tryz.prog 62 #[.pointer (some ⟨b, 0, none⟩), v, .string x, .int .i64 (a : Int)] w (Post w b tx (fun k => k = b ∨ B ≤ k) (putP s o x.data.toList a) fun o' e w' => ∃ v', e = .returned v' ∧ Own w' B v' o') := by
  obtain ⟨sa, scap, rfl⟩ := ho.slice
  have HO : Hid (Own w B (.slice sa o.length scap) o) := ho
  have hbg := begin_any w b tx s h ok a
  have HR : Hid (Rd w b tx s) := h
  have hgr := fun (w' : World) (s' : St) (h1 : Rd w' b tx s') (h2 : B ≤ w'.heap.size) (h3 : Own w' B (.slice sa o.length scap) o) => grow_any w' b B tx s' h1 hbB h2 _ o h3 hl x hx a
  clear ho h
  by_cases h0 : o = []
  · have t1 : ((o.length : Int) == 0) = true := by simp [h0]
    cases hp : beginP s a with
    | inr q_ =>
      obtain ⟨p, c⟩ := q_
      rw [hp] at hbg
      have e1 : putP s o x.data.toList a = .inr (p, c) := by simp [putP, h0, hp]
      rw [e1]
      clear e1 hp h0
      go_enter Tryz.func62, Tryz.ntmps62
      go_wp2_with fail
      refine hbg.mono ?_
      rintro e w1 ⟨rfl, ht⟩
      exact ⟨rfl, rfl, ht.mono (fun k _ e => .inl e)⟩
    | inl q_ =>
      obtain ⟨u, s1⟩ := q_
      rw [hp] at hbg
      have e1 : putP s o x.data.toList a = growP s1 o x.data.toList a := by simp [putP, h0, hp]
      rw [e1]
      obtain ⟨es, -, -⟩ := beginP_ok hp
      clear e1 hp h0
      go_enter Tryz.func62, Tryz.ntmps62
      go_wp2_with fail
      refine hbg.mono ?_
      rintro e w1 ⟨⟨rfl, hw1⟩, hr1, ht⟩
      have hsz : B ≤ w1.heap.size := Nat.le_trans hB ht.size
      have ho1 : Own w1 B (.slice sa o.length scap) o := World.ownsRow.kept HO.out (by rw [hw1]; exact grown_setCell w b 2 _) (Or.inr (HO.out.ne hbB))
      have hg1 := hgr w1 s1 hr1 hsz ho1
      have HT : Hid (Turn (fun k => k = b ∨ B ≤ k) w w1) := ht.mono (fun k _ e => .inl e)
      clear hgr hbg hw1 hr1 ht ho1 es
      go_wp2_with fail
      refine hg1.mono ?_
      intro e w2 hpost
      have hpost := hpost.after HT.out (fun k _ hk => hk)
      cases hgp : growP s1 o x.data.toList a with
      | inr q_ =>
        obtain ⟨p, c⟩ := q_
        rw [hgp] at hpost
        obtain ⟨rfl, ht⟩ := hpost
        exact ⟨rfl, Post.no hgp ht⟩
      | inl q_ =>
        obtain ⟨o', s'⟩ := q_
        rw [hgp] at hpost
        obtain ⟨⟨v', rfl, ho'⟩, hr', ht⟩ := hpost
        obtain ⟨va, vcap, rfl⟩ := ho'.slice
        clear hg1
        go_wp2
        go_ret
        exact Post.yes hgp ⟨_, rfl, ho'⟩ hr' ht
  · have t1 : ((o.length : Int) == 0) = false := by
      have : o.length ≠ 0 := fun e => h0 (List.length_eq_zero_iff.1 e)
      simp; omega
    have e1 : putP s o x.data.toList a = growP s o x.data.toList a := by simp [putP, h0]
    rw [e1]
    have hg1 := hgr w s HR.out hB HO.out
    clear e1 h0 hgr hbg
    go_enter Tryz.func62, Tryz.ntmps62
    go_wp2_with fail
    refine hg1.mono ?_
    intro e w2 hpost
    cases hgp : growP s o x.data.toList a with
    | inr q_ =>
      obtain ⟨p, c⟩ := q_
      rw [hgp] at hpost
      obtain ⟨rfl, ht⟩ := hpost
      exact ⟨rfl, Post.no hgp ht⟩
    | inl q_ =>
      obtain ⟨o', s'⟩ := q_
      rw [hgp] at hpost
      obtain ⟨⟨v', rfl, ho'⟩, hr', ht⟩ := hpost
      obtain ⟨va, vcap, rfl⟩ := ho'.slice
      clear hg1
      go_wp2
      go_ret
      exact Post.yes hgp ⟨_, rfl, ho'⟩ hr' ht

end Go.Proofs.YtmifejkddgcbmabGreat

/- Blanks and names, as the reader reads them. -/
namespace Go.Proofs.YtmifejkddgcbmabGreat
open Go.RowKit
set_option linter.unusedVariables false
set_option linter.unusedSimpArgs false
attribute [local go_sem] Bel.cell Bel.fz

theorem runN_step {l : Bs} {p : UInt8 → Bool} {a : Nat} {b : UInt8} (h : l[a]? = some b) (hp : p b = true) : a + runN l p a = (a + 1) + runN l p (a + 1) := by
  obtain ⟨h', e⟩ := List.getElem?_eq_some_iff.1 h
  unfold runN
  rw [List.drop_eq_getElem_cons h', List.takeWhile_cons, e, hp]
  simp; omega
theorem runN_stop {l : Bs} {p : UInt8 → Bool} {a : Nat} (h : ∀ b, l[a]? = some b → p b = false) : runN l p a = 0 := by
  unfold runN
  by_cases ha : a < l.length
  · rw [List.drop_eq_getElem_cons ha, List.takeWhile_cons, h _ (List.getElem?_eq_getElem ha)]
    simp
  · rw [List.drop_eq_nil_of_le (by omega)]; rfl
theorem runN_le {l : Bs} {p : UInt8 → Bool} {a : Nat} (h : a ≤ l.length) : a + runN l p a ≤ l.length := by
  unfold runN
  have := (List.takeWhile_sublist p (l := l.drop a)).length_le
  rw [List.length_drop] at this
  omega

def atOf (w : World) (b : Nat) : Nat := match w.cell? ⟨b, 1, none⟩ with
  | some (.int _ x) => x.toNat
  | _ => 0
theorem Rd.atOf {w : World} {b : Nat} {tx : ByteArray} {s : St} (h : Rd w b tx s) : atOf w b = s.at_ := by
  unfold YtmifejkddgcbmabGreat.atOf
  rw [h.facts.2.1]; simp

theorem ext_one {tx : ByteArray} {a : Nat} (h : a < tx.size) : (tx.extract a (a + 1)).data.toList = [tx[a]'h] := by
  rw [Lib.extract_data, show a + 1 - a = 1 by omega, drop_get h]; rfl

set_option maxRecDepth 100000 in
set_option maxHeartbeats 1000000 in
theorem blanks_any (w : World) (b : Nat) (tx : ByteArray) (s : St) (h : Rd w b tx s) (ok : Ok tx s) :
    Calls Tryz.prog 45 #[.pointer (some ⟨b, 0, none⟩)] w fun e w' => e = .returned (.bool (decide (s.at_ < (blanksP tx.data.toList s).at_))) ∧ Rd w' b tx (blanksP tx.data.toList s) ∧ Turn (· = b) w w' := by
  obtain ⟨k1, k2, k3, k4⟩ := ok
  have HR : Hid (Rd w b tx s) := h
  obtain ⟨h0, h1, h2, h3, f1, f2, f3, hb⟩ := h.facts
  have hE : ∃ E, E = s.at_ + runN tx.data.toList (fun b => blankB b.toNat) s.at_ := ⟨_, rfl⟩
  obtain ⟨E, hE⟩ := hE
  have e1 : blanksP tx.data.toList s = { s with at_ := E } := by simp [blanksP, hE]
  rw [e1]
  have HE : Hid (E = s.at_ + runN tx.data.toList (fun b => blankB b.toNat) s.at_) := hE
  clear h hE e1
  go_enter Tryz.func45, Tryz.ntmps45
  go_wp2
  go_loopw [] (fun wr => ∃ a : Nat, s.at_ ≤ a ∧ a ≤ tx.size ∧ Hid (E = a + runN tx.data.toList (fun b => blankB b.toNat) a) ∧ Hid (Rd wr b tx { s with at_ := a }) ∧ Hid (Turn (fun x => x = b) w wr)) (fun wr => tx.size - atOf wr b)
  case atStart => exact ⟨s.at_, by omega, k2, HE, HR, Turn.refl _ _⟩
  case round =>
    obtain ⟨a, ha0, ha1, hgo, hr, ht⟩ := hrel
    clear h0 h1 h2 h3 f1 f2 f3 hb
    obtain ⟨h0, h1, h2, h3, f1, f2, f3, hb⟩ := hr.out.facts
    simp only at h1 h2 h3
    by_cases hlt : a < tx.size
    · have hbl := fun W => blankl_any W (tx.extract a (a + 1)) (by simp; omega)
      have hx1 := ext_one hlt
      have ge := get_some hlt
      cases hc : blankB (tx[a]'hlt).toNat
      · have hv : blankL (tx.extract a (a + 1)).data.toList = false := by rw [hx1]; simp [blankL, hc]
        rw [hv] at hbl
        have hEa : E = a := by
          rw [hgo.out, runN_stop (fun b hb => by rw [ge] at hb; cases hb; exact hc)]; omega
        have HEa : Hid (E = a) := hEa
        clear hgo hx1 ge hc hv hEa HE HR
        go_wp2
        refine wp_region_bel (by kernel_rfl) (by kernel_rfl) ?_
        intro hne
        repeat go_big_quiet_step ((go_at_call 74; exact Calls.bel_of (hbl _)))
        refine wpQuiet_nil ?_
        rintro _ ⟨u, rfl⟩
        go_wp2
        go_ret
        have e2 := HEa.out
        refine ⟨congrArg _ (v_bool (by rw [e2])), ?_, ht.out.then u.h (ht.out.size)⟩
        rw [e2]
        exact hr.out.below u.h hb
      · have hv : blankL (tx.extract a (a + 1)).data.toList = true := by rw [hx1]; simp [blankL, hc]
        rw [hv] at hbl
        have hEa : E = (a + 1) + runN tx.data.toList (fun b => blankB b.toNat) (a + 1) := by rw [hgo.out, runN_step ge hc]
        have HEa : Hid (E = (a + 1) + runN tx.data.toList (fun b => blankB b.toNat) (a + 1)) := hEa
        clear hgo hx1 ge hc hv hEa HE HR
        go_wp2
        refine wp_region_bel (by kernel_rfl) (by kernel_rfl) ?_
        intro hne
        repeat go_big_quiet_step ((go_at_call 74; exact Calls.bel_of (hbl _)))
        refine wpQuiet_nil ?_
        rintro _ ⟨u, rfl⟩
        go_wp2
        have hr2 : Rd (u.w.setCell ⟨b, 1, none⟩ (.int .i64 ((a : Int) + 1))) b tx { s with at_ := a + 1 } := (hr.out.below u.h hb).setAt (a + 1) (by simp)
        refine ⟨⟨a + 1, by omega, by omega, HEa, hr2, turn_set (ht.out.then u.h ht.out.size) _ _⟩, ?_⟩
        rw [hr2.atOf, hr.out.atOf]
        simp only
        omega
    · have hEa : E = a := by
        rw [hgo.out, runN_stop (fun b hb => by rw [get_no (by omega)] at hb; cases hb)]; omega
      have HEa : Hid (E = a) := hEa
      have e3 : a = tx.size := by omega
      clear hgo HE HR hEa
      go_wp2
      refine wp_region_bel (by kernel_rfl) (by kernel_rfl) ?_
      intro hne
      repeat go_big_quiet_step (fail)
      refine wpQuiet_nil ?_
      rintro _ ⟨u, rfl⟩
      go_wp2
      go_ret
      have e2 := HEa.out
      refine ⟨congrArg _ (v_bool (by rw [e2]; simp <;> omega)), ?_, ht.out.then u.h (ht.out.size)⟩
      rw [e2]
      exact hr.out.below u.h hb

set_option maxRecDepth 100000 in
theorem firstOf_any (w : World) (c : UInt8) : Calls Tryz.prog 71 #[.int .u8 (c.toNat : Int)] w fun e w' => e = .returned (.bool (beginB c.toNat)) ∧ Below w.heap.size w w' := by
  have hcv := conv_new w [c] #[.int .u8 (c.toNat : Int)] (by simp [Lib.byteCells]) 1 rfl
  have hn : nameL [c] = beginB c.toNat := by
    have hi : beginB c.toNat = true → inB c.toNat = true := by intro h; simp only [beginB, inB, decide_eq_true_eq] at h ⊢; omega
    simp only [nameL]
    cases hb : beginB c.toNat
    · simp [hb]
    · simp [hb, hi hb]
  have hnw := fun W => name_any W (⟨#[c]⟩ : ByteArray)
  simp only [hn] at hnw
  go_enter Tryz.func71, Tryz.ntmps71
  go_wp2_with fail
  refine (hnw _).mono ?_
  rintro e w1 ⟨rfl, hb⟩
  go_wp2
  go_ret
  exact ⟨rfl, (below_new w _).trans (hb.mono (by simp))⟩

set_option maxRecDepth 100000 in
theorem inName_any (w : World) (c : UInt8) : Calls Tryz.prog 72 #[.int .u8 (c.toNat : Int)] w fun e w' => e = .returned (.bool (inB c.toNat)) ∧ Below w.heap.size w w' := by
  have hcv := conv_new w [95, c] #[.int .u8 95, .int .u8 (c.toNat : Int)] (by simp [Lib.byteCells]) 2 rfl
  have hn : nameL [95, c] = inB c.toNat := by
    have h1 : beginB 95 = true := by decide
    have h2 : inB 95 = true := by decide
    simp [nameL, h1, h2]
  have hnw := fun W => name_any W (⟨#[95, c]⟩ : ByteArray)
  simp only [hn] at hnw
  go_enter Tryz.func72, Tryz.ntmps72
  go_wp2_with fail
  refine (hnw _).mono ?_
  rintro e w1 ⟨rfl, hb⟩
  go_wp2
  go_ret
  exact ⟨rfl, (below_new w _).trans (hb.mono (by simp))⟩


end Go.Proofs.YtmifejkddgcbmabGreat
