/- The reader in memory; what a call of it leaves. Its smallest steps. -/
import Derived.Test.YtmifejkddgcbmaaGreatA05
import Derived.Test.YtmifejkddgcbmaaGreatA04
import Derived.Laws.BytesArg
import Derived.Lib.AppendStr
import Derived.Laws.AppendOwn
import Derived.OwnWalk
namespace Go.Proofs.YtmifejkddgcbmaaGreat
open Go.RowKit
set_option linter.unusedVariables false
set_option linter.unusedSimpArgs false

def rdC (tx : ByteArray) (s : St) : Array Value := #[.string tx, .int .i64 (s.at_ : Int), .int .i64 (s.nodes : Int), .int .i64 (s.op : Int)]
/-- The reader of a text lies in block b. -/
def Rd (w : World) (b : Nat) (tx : ByteArray) (s : St) : Prop := w.heap[b]? = some (.cells (rdC tx s) 53 (0, 0)) ∧ 0 < b ∧ ∃ m : Int, w.cell? ⟨0, 0, none⟩ = some (.int .i64 m)

/-- The panic with which the reader gives up. -/
def fault (p : Nat) (e : Int) : Ending := .panicked [{ v := .iface 51 (.agg #[.int .i64 (p : Int), .int .i64 e]), recovered := false }]

/-- What a call of the reader leaves: the thing, or the fault. -/
def Post {α : Type} (w : World) (b : Nat) (tx : ByteArray) (A : Nat → Prop) (r : Rs α) (V : α → Ending → World → Prop) (e : Ending) (w' : World) : Prop := match r with
  | .inl (a, s) => V a e w' ∧ Rd w' b tx s ∧ Turn A w w'
  | .inr (p, c) => e = fault p c ∧ Turn A w w'

/-- Where a reader can be. -/
structure Ok (tx : ByteArray) (s : St) : Prop where
  len : tx.size ≤ 262144
  at_ : s.at_ ≤ tx.size
  nodes : s.nodes ≤ 4096
  op : s.op ≤ 64

theorem ba_size (l : Bs) : (ba l).size = l.length := by simp [ba, ByteArray.size]
theorem ba_list (l : Bs) : (ba l).data.toList = l := by simp [ba]
theorem ba_of (s : ByteArray) : ba s.data.toList = s := by simp [ba]

theorem Rd.facts {w : World} {b : Nat} {tx : ByteArray} {s : St} (h : Rd w b tx s) :
    w.cell? ⟨b, 0, none⟩ = some (.string tx) ∧ w.cell? ⟨b, 1, none⟩ = some (.int .i64 (s.at_ : Int)) ∧ w.cell? ⟨b, 2, none⟩ = some (.int .i64 (s.nodes : Int)) ∧ w.cell? ⟨b, 3, none⟩ = some (.int .i64 (s.op : Int)) ∧
    w.frozen? ⟨b, 1, none⟩ = false ∧ w.frozen? ⟨b, 2, none⟩ = false ∧ w.frozen? ⟨b, 3, none⟩ = false ∧ b < w.heap.size := by
  obtain ⟨h, -, -⟩ := h
  refine ⟨?_, ?_, ?_, ?_, ?_, ?_, ?_, (Array.getElem?_eq_some_iff.1 h).1⟩ <;> simp [World.cell?, World.frozen?, h, rdC]
theorem Rd.set {w : World} {b : Nat} {tx : ByteArray} {s : St} (h : Rd w b tx s) (k : Nat) (v : Value) {s' : St} (e : (rdC tx s).setIfInBounds k v = rdC tx s') : Rd (w.setCell ⟨b, k, none⟩ v) b tx s' := by
  obtain ⟨h, h0, m, hm⟩ := h
  refine ⟨?_, h0, m, ?_⟩
  · rw [← e]
    simp [World.setCell, Array.getElem?_modify, h]
  · rw [World.cell?_of_block (w := w) (a := ⟨0, 0, none⟩) (Below.heap_setCell _ _ _ _ (by show 0 ≠ b; omega))]; exact hm
theorem Rd.setAt {w : World} {b : Nat} {tx : ByteArray} {s : St} (h : Rd w b tx s) (n : Nat) {x : Int} (hx : x = (n : Int)) : Rd (w.setCell ⟨b, 1, none⟩ (.int .i64 x)) b tx { s with at_ := n } := h.set 1 _ (by subst hx; simp [rdC])
theorem Rd.setNodes {w : World} {b : Nat} {tx : ByteArray} {s : St} (h : Rd w b tx s) (n : Nat) {x : Int} (hx : x = (n : Int)) : Rd (w.setCell ⟨b, 2, none⟩ (.int .i64 x)) b tx { s with nodes := n } := h.set 2 _ (by subst hx; simp [rdC])
theorem Rd.setOp {w : World} {b : Nat} {tx : ByteArray} {s : St} (h : Rd w b tx s) (n : Nat) {x : Int} (hx : x = (n : Int)) : Rd (w.setCell ⟨b, 3, none⟩ (.int .i64 x)) b tx { s with op := n } := h.set 3 _ (by subst hx; simp [rdC])
theorem Rd.of_block {w w' : World} {b : Nat} {tx : ByteArray} {s : St} (h : Rd w b tx s) (e : w'.heap[b]? = w.heap[b]?) (e0 : w'.heap[0]? = w.heap[0]?) : Rd w' b tx s := by
  obtain ⟨h, h0, m, hm⟩ := h
  exact ⟨e.trans h, h0, m, (World.cell?_of_block (w := w) (a := ⟨0, 0, none⟩) e0).trans hm⟩
theorem Rd.below {w w' : World} {b B : Nat} {tx : ByteArray} {s : St} (h : Rd w b tx s) (hb : Below B w w') (hB : b < B) : Rd w' b tx s := h.of_block (hb.block b hB) (hb.block 0 (by omega))
theorem Rd.drew {w : World} {b : Nat} {tx : ByteArray} {s : St} (h : Rd w b tx s) : Rd w.drew b tx s := h
theorem turn_below {w w' : World} {B : Nat} (A : Nat → Prop) (h : Below B w w') (hB : w.heap.size ≤ B) : Turn A w w' := ⟨h.os, h.tape, h.output, h.size, fun k hk _ => h.block k (by omega)⟩

theorem turn_set {w w1 : World} {b : Nat} (h : Turn (fun x => x = b) w w1) (k : Nat) (v : Value) : Turn (fun x => x = b) w (w1.setCell ⟨b, k, none⟩ v) := h.setCell (p := ⟨b, k, none⟩) rfl v
theorem get_some {tx : ByteArray} {a : Nat} (h : a < tx.size) : tx.data.toList[a]? = some (tx[a]'h) := by
  obtain ⟨h', e⟩ := get_list h
  rw [List.getElem?_eq_getElem h', e]
theorem get_no {tx : ByteArray} {a : Nat} (h : tx.size ≤ a) : tx.data.toList[a]? = none := by
  rw [List.getElem?_eq_none_iff, size_list]; exact h

set_option maxRecDepth 100000 in
theorem fail_any (w : World) (r : Value) (p : Nat) (e : Int) : Calls Tryz.prog 60 #[r, .int .i64 (p : Int), .int .i64 e] w fun x w' => x = fault p e ∧ w' = w := by
  go_enter Tryz.func60, Tryz.ntmps60
  go_wp2
  exact ⟨rfl, rfl, rfl⟩

set_option maxRecDepth 100000 in
theorem need_any (w : World) (b : Nat) (tx : ByteArray) (s : St) (h : Rd w b tx s) (ok : Ok tx s) :
    Calls Tryz.prog 87 #[.pointer (some ⟨b, 0, none⟩)] w (Post w b tx (· = b) (needP tx.data.toList s) fun c e w' => e = .returned (.int .u8 (c.toNat : Int)) ∧ Below w.heap.size w w') := by
  obtain ⟨h0, h1, h2, h3, f1, f2, f3, hb⟩ := h.facts
  obtain ⟨k1, k2, k3, k4⟩ := ok
  have hfl := fun W => fail_any W (.pointer (some ⟨b, 0, none⟩)) s.at_ 4
  by_cases ha : s.at_ < tx.size
  · have hn : needP tx.data.toList s = .inl ((tx[s.at_]'ha), s) := by simp [needP, get_some ha]
    rw [hn]
    have HR : Hid (Rd w b tx s) := h
    have t1 : ((s.at_ : Int) == (tx.size : Int)) = false := by simp; omega
    go_enter Tryz.func87, Tryz.ntmps87
    go_wp2_with (go_region)
    go_ret
    exact ⟨⟨rfl, (Below.refl _ _).drew.drew⟩, HR.out, (Turn.refl _ _).drew.drew⟩
  · have e1 : s.at_ = tx.size := by omega
    have hn : needP tx.data.toList s = .inr (s.at_, 4) := by simp [needP, get_no (Nat.le_of_eq e1.symm)]
    rw [hn]
    have t1 : ((s.at_ : Int) == (tx.size : Int)) = true := by simp; omega
    clear e1 ha hn
    go_enter Tryz.func87, Tryz.ntmps87
    go_wp2_with (go_region)
    refine (hfl _).mono ?_
    rintro e w1 ⟨rfl, rfl⟩
    exact ⟨rfl, rfl, (Turn.refl _ _).drew⟩

theorem u8_ne {a b : UInt8} : ((a.toNat : Int) != (b.toNat : Int)) = !(decide (a = b)) := by
  by_cases h : a = b
  · subst h; simp
  · have : a.toNat ≠ b.toNat := fun e => h (UInt8.toNat_inj.1 e)
    simp [h]; omega

set_option maxRecDepth 100000 in
theorem expect_any (w : World) (b : Nat) (tx : ByteArray) (s : St) (h : Rd w b tx s) (ok : Ok tx s) (c : UInt8) :
    Calls Tryz.prog 58 #[.pointer (some ⟨b, 0, none⟩), .int .u8 (c.toNat : Int)] w (Post w b tx (· = b) (expectP tx.data.toList c s) fun _ e w' => e = .returned (.tuple #[]) ∧ ∃ w1, Below w.heap.size w w1 ∧ w' = w1.setCell ⟨b, 1, none⟩ (.int .i64 (((s.at_ + 1 : Nat)) : Int))) := by
  have hnd := need_any w b tx s h ok
  obtain ⟨h0, h1, h2, h3, f1, f2, f3, hb⟩ := h.facts
  obtain ⟨k1, k2, k3, k4⟩ := ok
  have hfl := fun W => fail_any W (.pointer (some ⟨b, 0, none⟩)) s.at_ 3
  by_cases ha : s.at_ < tx.size
  · have hn : needP tx.data.toList s = .inl ((tx[s.at_]'ha), s) := by simp [needP, get_some ha]
    rw [hn] at hnd
    by_cases hc : tx[s.at_]'ha = c
    · have hn2 : expectP tx.data.toList c s = .inl ((), { s with at_ := s.at_ + 1 }) := by simp [expectP, get_some ha, hc]
      rw [hn2]
      have t1 : (((tx[s.at_]'ha).toNat : Int) != (c.toNat : Int)) = false := by rw [u8_ne]; simp [hc]
      generalize tx[s.at_]'ha = d at *
      clear hn hn2 hc h0 h1 h2 h3 f1 f2 f3
      go_enter Tryz.func58, Tryz.ntmps58
      go_wp2_with fail
      refine hnd.mono ?_
      rintro e w1 ⟨⟨rfl, hbl⟩, hr, -⟩
      obtain ⟨h0, h1, h2, h3, f1, f2, f3, hb1⟩ := hr.facts
      have HR : Hid (Rd w1 b tx s) := hr
      have HB : Hid (Below w.heap.size w w1) := hbl
      clear hr hnd hbl
      go_wp2
      go_end0
      exact ⟨⟨rfl, w1, HB.out, rfl⟩, HR.out.setAt _ (by simp), turn_set (turn_below _ HB.out (Nat.le_refl _)) _ _⟩
    · have hn2 : expectP tx.data.toList c s = .inr (s.at_, 3) := by simp [expectP, get_some ha, hc]
      rw [hn2]
      have t1 : (((tx[s.at_]'ha).toNat : Int) != (c.toNat : Int)) = true := by rw [u8_ne]; simp [hc]
      generalize tx[s.at_]'ha = d at *
      clear hn hn2 hc h0 h1 h2 h3 f1 f2 f3
      go_enter Tryz.func58, Tryz.ntmps58
      go_wp2_with fail
      refine hnd.mono ?_
      rintro e w1 ⟨⟨rfl, hbl⟩, hr, -⟩
      obtain ⟨h0, h1, h2, h3, f1, f2, f3, hb1⟩ := hr.facts
      have HB : Hid (Below w.heap.size w w1) := hbl
      clear hr hnd hbl
      go_wp2_with fail
      refine (hfl _).mono ?_
      rintro e w1 ⟨rfl, rfl⟩
      exact ⟨rfl, rfl, turn_below _ HB.out (Nat.le_refl _)⟩
  · have hn : needP tx.data.toList s = .inr (s.at_, 4) := by simp [needP, get_no (Nat.le_of_not_lt ha)]
    have hn2 : expectP tx.data.toList c s = .inr (s.at_, 4) := by simp [expectP, get_no (Nat.le_of_not_lt ha)]
    rw [hn] at hnd
    rw [hn2]
    clear hn hn2 ha h0 h1 h2 h3 f1 f2 f3
    go_enter Tryz.func58, Tryz.ntmps58
    go_wp2_with fail
    refine hnd.mono ?_
    rintro e w1 ⟨rfl, ht⟩
    exact ⟨rfl, rfl, ht⟩

set_option maxRecDepth 100000 in
theorem begin_any (w : World) (b : Nat) (tx : ByteArray) (s : St) (h : Rd w b tx s) (ok : Ok tx s) (a : Nat) :
    Calls Tryz.prog 85 #[.pointer (some ⟨b, 0, none⟩), .int .i64 (a : Int)] w (Post w b tx (· = b) (beginP s a) fun _ e w' => e = .returned (.tuple #[]) ∧ w' = w.setCell ⟨b, 2, none⟩ (.int .i64 (((s.nodes + 1 : Nat)) : Int))) := by
  obtain ⟨h0, h1, h2, h3, f1, f2, f3, hb⟩ := h.facts
  obtain ⟨k1, k2, k3, k4⟩ := ok
  have hfl := fun W => fail_any W (.pointer (some ⟨b, 0, none⟩)) a 2
  have HR : Hid (Rd w b tx s) := h
  by_cases hn : s.nodes = 4096
  · have hn2 : beginP s a = .inr (a, 2) := by simp [beginP, hn]
    rw [hn2]
    have t1 : ((s.nodes : Int) == 4096) = true := by simp; omega
    clear hn hn2
    go_enter Tryz.func85, Tryz.ntmps85
    go_wp2_with fail
    refine (hfl _).mono ?_
    rintro e w1 ⟨rfl, rfl⟩
    exact ⟨rfl, rfl, Turn.refl _ _⟩
  · have t1 : ((s.nodes : Int) == 4096) = false := by simp; omega
    by_cases hp : s.op = 64
    · have hn2 : beginP s a = .inr (a, 2) := by simp [beginP, hp]
      rw [hn2]
      have t2 : ((s.op : Int) == 64) = true := by simp; omega
      clear hn hn2 hp
      go_enter Tryz.func85, Tryz.ntmps85
      go_wp2_with fail
      refine (hfl _).mono ?_
      rintro e w1 ⟨rfl, rfl⟩
      exact ⟨rfl, rfl, Turn.refl _ _⟩
    · have hn2 : beginP s a = .inl ((), { s with nodes := s.nodes + 1 }) := by simp [beginP, hp, hn]
      rw [hn2]
      have t2 : ((s.op : Int) == 64) = false := by simp; omega
      clear hn hn2 hp
      go_enter Tryz.func85, Tryz.ntmps85
      go_wp2
      go_end0
      exact ⟨⟨rfl, rfl⟩, HR.out.setNodes _ (by simp), turn_set (Turn.refl _ _) _ _⟩

end Go.Proofs.YtmifejkddgcbmaaGreat

/- A row of bytes of the call's own, as a text. -/
namespace Go.Proofs.YtmifejkddgcbmaaGreat
open Go.RowKit
set_option linter.unusedVariables false
set_option linter.unusedSimpArgs false

theorem owns_below {w w' : World} {base : Nat} {e : TypeId} {size : Nat} {v : Value} {n : Nat} {xs : List Value} (h : w.ownsRow base e size v n xs) (hb : Below w.heap.size w w') : w'.ownsRow base e size v n xs := by
  refine ⟨h.1, ?_⟩
  rcases h.2 with h1 | ⟨g, cap, cur, hv, hg, hh, rest⟩
  · exact Or.inl h1
  · exact Or.inr ⟨g, cap, cur, hv, hg, by rw [hb.block g (Array.getElem?_eq_some_iff.1 hh).1]; exact hh, rest⟩

theorem owns_slice {w : World} {base : Nat} {e : TypeId} {v : Value} {n : Nat} {xs : List Value} (h : w.ownsRow base e 1 v n xs) : ∃ a cap, v = .slice a n cap := by
  rcases h.2 with ⟨h1, h2⟩ | ⟨g, cap, cur, hv, _⟩
  · exact ⟨none, 0, by rw [h1, h2]⟩
  · exact ⟨_, _, hv⟩

theorem info9 : (Tryz.prog.info? 9).map (fun i => (i.zero, i.size, i.bytes)) = some (some (.string ⟨#[]⟩), 1, 16) := by kernel_rfl
theorem info5 : (Tryz.prog.info? 5).map (fun i => (i.zero, i.size, i.bytes)) = some (some (.int .u8 0), 1, 1) := by kernel_rfl

/-- A row of bytes of the call's own, as a text. -/
theorem conv_own {w : World} {B n : Nat} {v : Value} {l : List UInt8} (h : w.ownsRow B 5 1 v n (Lib.byteCells l)) : (convert 41 9 v).run Tryz.prog w = .ok (.string ⟨l.toArray⟩) w := by
  have hn : n = l.length := by
    have := h.1
    rw [Lib.byteCells_length] at this
    omega
  rcases h.2 with ⟨rfl, h0⟩ | ⟨g, cap, cur, rfl, hg, hh, hrest⟩
  · have : l = [] := List.length_eq_zero_iff.1 (by omega)
    subst this
    exact run_convert_bytes_nil w 41 5 Tryz.underlying41 Tryz.underlying5 0 0 9 Tryz.underlying9
  · subst hn
    refine run_convert_bytes_back w 41 9 5 ⟨g, 0, none⟩ cap l Tryz.underlying41 Tryz.underlying5 Tryz.underlying9 ?_
    intro j hj
    refine h.cells (g := g) rfl j _ ?_
    simp [Lib.byteCells, hj]

theorem v_str {a b : ByteArray} (h : a = b) : Value.string a = .string b := by rw [h]
theorem tans_ok {l : List UInt8} (h : (tans l).2 = 0) : l.length ≤ 16384 ∧ l = bytes (scan l).1 ∧ (∀ r ∈ (scan l).1, Ch r) := by
  unfold tans at h
  split at h
  · simp at h
  · rename_i h1
    unfold bans at h
    split at h
    · rename_i h2
      have h3 := scan_spec l
      refine ⟨by omega, ?_, h3.2.1⟩
      rw [h2, List.append_nil] at h3
      exact h3.1
    · simp at h
end Go.Proofs.YtmifejkddgcbmaaGreat
