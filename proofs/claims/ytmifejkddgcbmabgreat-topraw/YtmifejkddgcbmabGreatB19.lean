/- The document's reader: events, and the reader while the next one is read. -/
import Derived.Test.YtmifejkddgcbmabGreatB17
import Derived.Test.YtmifejkddgcbmabGreatB18
import Derived.Deep.RegionHeld3
namespace Go.Proofs.YtmifejkddgcbmabGreat
open Go.RowKit
set_option linter.unusedVariables false
set_option linter.unusedSimpArgs false
attribute [local go_sem] Bel.cell Bel.fz

/-- What goes by. -/
abbrev Ev := Option (Sum Bs (Sum (Bs × List Att × Bool) ByteArray))
theorem ev_cases {motive : Ev → Prop} (none : motive .none) (words : ∀ t, motive (.some (.inl t))) (start : ∀ n a em, motive (.some (.inr (.inl (n, a, em))))) (fin : ∀ n, motive (.some (.inr (.inr n)))) : ∀ ev, motive ev
  | .none => none
  | .some (.inl t) => words t
  | .some (.inr (.inl (n, a, em))) => start n a em
  | .some (.inr (.inr n)) => fin n

/-- The next event. -/
def nextQ (l : Bs) (op : List ByteArray) (s : St) : Rs Ev := match wordsP l s with
  | .inr (p, e) => .inr (p, e)
  | .inl (t, s1) => if t ≠ [] then .inl ((.some (.inl t)), s1) else if s1.at_ = l.length then (if op = [] then .inl (.none, s1) else .inr (l.length, 4))
    else if seesP l pEnd s1.at_ = true then (match endQ l op s1.at_ { s1 with at_ := s1.at_ + 2 } with
      | .inr (p, e) => .inr (p, e)
      | .inl (_, s2) => .inl ((.some (.inr (.inr (op.getLast?.getD ⟨#[]⟩)))), { s2 with op := s2.op - 1 }))
    else match beginP s1 s1.at_ with
      | .inr (p, e) => .inr (p, e)
      | .inl (_, s2) => match tagQ l { s2 with at_ := s2.at_ + 1 } with
        | .inr (p, e) => .inr (p, e)
        | .inl (r, s3) => .inl ((.some (.inr (.inl (r.1, r.2.1, r.2.2)))), (if r.2.2 then s3 else { s3 with op := s3.op + 1 }))

def opOf (op : List ByteArray) : Ev → List ByteArray
  | .some (.inr (.inl (n, _, em))) => if em then op else op ++ [ba n]
  | .some (.inr (.inr _)) => op.dropLast
  | _ => op

def evV (k : Int) (n : ByteArray) (va : Value) (t : ByteArray) (em is : Bool) : Value := .tuple #[.agg #[.int .i64 k, .string n, va, .string t], .bool em, .bool is]
abbrev evNo : Value := evV 0 ⟨#[]⟩ (.slice none 0 0) ⟨#[]⟩ false false

/-- What 'Next' tells. -/
def NextV (w : World) (e : Ending) (w' : World) : Ev → Prop
  | .none => e = .returned evNo
  | .some (.inl t) => e = .returned (evV 2 ⟨#[]⟩ (.slice none 0 0) (ba t) false true)
  | .some (.inr (.inl (n, a, em))) => Dist a ∧ a.length ≤ 32 ∧ ∃ la lcap, e = .returned (evV 1 (ba n) (.slice la a.length lcap) ⟨#[]⟩ em true) ∧ w'.ownsRow w.heap.size 84 2 (.slice la a.length lcap) a.length (attrCells a)
  | .some (.inr (.inr n)) => e = .returned (evV 3 n (.slice none 0 0) ⟨#[]⟩ false true)

/-- What a call of 'Next' leaves. -/
def NxPost (w : World) (b : Nat) (tx : ByteArray) (op : List ByteArray) (r : Rs Ev) (e : Ending) (w' : World) : Prop := Turn (fun k => k = b) w w' ∧ match r with
  | .inl (ev, s) => NextV w e w' ev ∧ QS w' b w'.heap.size tx s (opOf op ev) []
  | .inr (p, c) => e = .returned evNo ∧ ∃ B, QE w' b B tx tx.size p c
theorem NxPost.no {w : World} {b : Nat} {tx : ByteArray} {op : List ByteArray} {r : Rs Ev} {w' : World} {p : Nat} {c : Int} {B : Nat} (h : r = .inr (p, c)) (ht : Turn (fun k => k = b) w w') (hq : QE w' b B tx tx.size p c) : NxPost w b tx op r (.returned evNo) w' := by
  subst h; exact ⟨ht, rfl, B, hq⟩
theorem NxPost.yes {w : World} {b : Nat} {tx : ByteArray} {op : List ByteArray} {r : Rs Ev} {e : Ending} {w' : World} {ev : Ev} {s : St} (h : r = .inl (ev, s)) (ht : Turn (fun k => k = b) w w') (hv : NextV w e w' ev) (hq : QS w' b w'.heap.size tx s (opOf op ev) []) : NxPost w b tx op r e w' := by
  subst h; exact ⟨ht, hv, hq⟩

/-- No text: it may lie from anywhere on. -/
theorem Qd.rebase {w : World} {b B B' : Nat} {tx : ByteArray} {q : Qs} {vo vt : Value} {op : List ByteArray} (h : Qd w b B tx q vo vt op []) (h1 : B' ≤ w.heap.size) (h2 : b < B') (h3 : ∀ k, vo.ownBlock = some k → k < B') : Qd w b B' tx q vo vt op [] := by
  have hn := h.nl rfl
  subst hn
  exact ⟨h.cel, ⟨rfl, .inl ⟨rfl, rfl⟩⟩, h.opn, fun k hk => ⟨h3 k hk, (h.opb k hk).2⟩, h2, h1, fun _ => rfl⟩

/-- The next event under way: its answer lies in block w.heap.size. -/
structure EvSt (w wr : World) (b : Nat) (tx : ByteArray) (q : Qs) (vo vt : Value) (op : List ByteArray) (o : Bs) : Prop where
  qd : Qd wr b (w.heap.size + 1) tx q vo vt op o
  turn : Turn (fun k => k = b ∨ w.heap.size + 1 ≤ k) w wr
  res : wr.heap[w.heap.size]? = some (.cells #[.int .i64 0, .string ⟨#[]⟩, .slice none 0 0, .string ⟨#[]⟩] 66 (0, 0))
  ltb : b < w.heap.size
theorem EvSt.go {w wr wr' : World} {b : Nat} {tx : ByteArray} {q q' : Qs} {vo vt vo' vt' : Value} {op op' : List ByteArray} {o o' : Bs} (h : EvSt w wr b tx q vo vt op o) (hr : Qd wr' b (w.heap.size + 1) tx q' vo' vt' op' o') (ht : Turn (fun k => k = b ∨ w.heap.size + 1 ≤ k) wr wr') : EvSt w wr' b tx q' vo' vt' op' o' :=
  ⟨hr, h.turn.trans ht, (ht.block _ (Array.getElem?_eq_some_iff.1 h.res).1 (by have := h.ltb; omega)).trans h.res, h.ltb⟩
theorem EvSt.tb {w wr : World} {b : Nat} {tx : ByteArray} {q : Qs} {vo vt : Value} {op : List ByteArray} {o : Bs} (h : EvSt w wr b tx q vo vt op o) : Turn (fun k => k = b) w wr := h.turn.mono (fun k hk e => by rcases e with e | e; exact e; omega)

theorem cells4 {W : World} {c : Nat} {x y z u : Value} (h : W.heap[c]? = some (.cells #[x, y, z, u] 66 (0, 0))) : W.cell? ⟨c, 0, none⟩ = some x ∧ W.cell? ⟨c, 1, none⟩ = some y ∧ W.cell? ⟨c, 2, none⟩ = some z ∧ W.cell? ⟨c, 3, none⟩ = some u ∧ (∀ j, W.frozen? ⟨c, j, none⟩ = false) ∧ c < W.heap.size := by
  refine ⟨?_, ?_, ?_, ?_, fun j => ?_, (Array.getElem?_eq_some_iff.1 h).1⟩ <;> simp [World.cell?, World.frozen?, h]

/-- The answer's cells. -/
def evW (w9 : World) (r : Nat) (k : Int) (n : ByteArray) (va : Value) (t : ByteArray) : World :=
  (((w9.setCell ⟨r, 0, none⟩ (.int .i64 k)).setCell ⟨r, 1, none⟩ (.string n)).setCell ⟨r, 2, none⟩ va).setCell ⟨r, 3, none⟩ (.string t)
theorem evW_other (w9 : World) (r : Nat) (k : Int) (n : ByteArray) (va : Value) (t : ByteArray) (j : Nat) (h : j ≠ r) : (evW w9 r k n va t).heap[j]? = w9.heap[j]? := by
  unfold evW
  rw [Below.heap_setCell _ _ _ _ h, Below.heap_setCell _ _ _ _ h, Below.heap_setCell _ _ _ _ h, Below.heap_setCell _ _ _ _ h]
theorem evW_size (w9 : World) (r : Nat) (k : Int) (n : ByteArray) (va : Value) (t : ByteArray) : (evW w9 r k n va t).heap.size = w9.heap.size := by simp [evW, World.setCell]
theorem EvSt.ret {w w9 : World} {b : Nat} {tx : ByteArray} {q : Qs} {vo vt : Value} {op : List ByteArray} {o : Bs} (h : EvSt w w9 b tx q vo vt op o) (k : Int) (n : ByteArray) (va : Value) (t : ByteArray) :
    Qd (evW w9 w.heap.size k n va t) b (w.heap.size + 1) tx q vo vt op o ∧ Turn (fun x => x = b) w (evW w9 w.heap.size k n va t) := by
  have h2 := h.ltb
  have hs := h.qd.opb
  refine ⟨⟨(evW_other _ _ _ _ _ _ _ (by omega)).trans h.qd.cel, ?_, ?_, hs, h.qd.ltb, by rw [evW_size]; exact h.qd.leB, h.qd.nl⟩, ?_⟩
  · exact own_of_block h.qd.txt (fun j hj => evW_other _ _ _ _ _ _ _ (by have := (own_block_lt h.qd.txt j hj).1; omega))
  · exact own_of_block h.qd.opn (fun j hj => evW_other _ _ _ _ _ _ _ (fun e => own_not h.qd.opn h.res (by decide) (by rw [hj, e])))
  · unfold evW
    exact (((h.tb.setNew (p := ⟨w.heap.size, 0, none⟩) (Nat.le_refl _) _).setNew (p := ⟨w.heap.size, 1, none⟩) (Nat.le_refl _) _).setNew (p := ⟨w.heap.size, 2, none⟩) (Nat.le_refl _) _).setNew (p := ⟨w.heap.size, 3, none⟩) (Nat.le_refl _) _

/-- The text is told, and a new one begins. -/
theorem Qd.told {w : World} {b B : Nat} {tx : ByteArray} {s : St} {hh : Bool} {vo vt : Value} {op : List ByteArray} {o : Bs} (h : Qd w b B tx (okQ s hh) vo vt op o) : Qd ((w.setCell ⟨b, 6, none⟩ (.slice none 0 0)).setCell ⟨b, 7, none⟩ (.bool false)) b B tx (okQ s false) vo (.slice none 0 0) op [] := by
  have hb := h.ltb
  refine ⟨?_, ⟨rfl, .inl ⟨rfl, rfl⟩⟩, ?_, h.opb, hb, by simpa [World.setCell] using h.leB, fun _ => rfl⟩
  · have e1 : (w.setCell ⟨b, 6, none⟩ (.slice none 0 0)).heap[b]? = some (.cells (qC tx (okQ s hh) vo (.slice none 0 0)) 49 (0, 0)) := by simp [World.setCell, Array.getElem?_modify, h.cel, qC]
    rw [World.setCell]; simp [Array.getElem?_modify, e1, qC, okQ]
  · exact own_of_block h.opn (fun k' hk => (Below.heap_setCell _ _ _ _ (h.opb k' hk).2).trans (Below.heap_setCell _ _ _ _ (h.opb k' hk).2))

set_option maxRecDepth 100000 in
set_option maxHeartbeats 1000000 in
/-- Where something is wrong already. -/
theorem qNext_err (w : World) (b B : Nat) (tx : ByteArray) (p : Nat) (c : Int) (h : QE w b B tx tx.size p c) (hl : tx.size ≤ 262144) :
    Calls Tryz.prog 30 #[.pointer (some ⟨b, 0, none⟩)] w fun e w' => e = .returned evNo ∧ QE w' b B tx tx.size p c ∧ Turn (fun k => k = b) w w' := by
  obtain ⟨hc0, q, vo, vt, op, o, hq, he, hpl, hM, ho⟩ := h
  have hbw : b < w.heap.size := Nat.lt_of_lt_of_le hq.ltb hq.leB
  have hq1 := hq.below ((Below.refl _ w).alloc (Nat.le_refl _) (.cells #[.int .i64 0, .string ⟨#[]⟩, .slice none 0 0, .string ⟨#[]⟩] 66))
  have hnx := qnext_err _ b B tx q vo vt op o hq1 hl hM (by rw [he]; exact hc0)
  have t9 : (q.err == 0) = false := by rw [he]; exact beq_eq_false_iff_ne.2 hc0
  have HR9 : Hid (c ≠ 0 ∧ q.err = c ∧ q.place = p ∧ q.at_ ≤ tx.size ∧ o.length ≤ 100000) := ⟨hc0, he, hpl, hM, ho⟩
  clear hq hq1 hc0 he hpl hM ho
  go_enter Tryz.func30, Tryz.ntmps30
  go_wp2_with fail
  refine hnx.mono ?_
  rintro e w1 ⟨⟨kk, rfl⟩, hq1, ht1⟩
  have HQ1 : Hid (Qd w1 b B tx q vo vt op o) := hq1
  have HT1 : Hid (Turn (fun k => k = b) w w1) := ht1.ofAlloc
  have HC1 : w1.heap[w.heap.size]? = some (.cells #[.int .i64 0, .string ⟨#[]⟩, .slice none 0 0, .string ⟨#[]⟩] 66 (0, 0)) := (ht1.block _ (by simp) (by omega)).trans (heap_alloc_new w _)
  obtain ⟨r0, r1, r2, r3, rf, rcl⟩ := cells4 HC1
  have HC2 : Hid _ := HC1
  clear hnx hq1 ht1 HC1
  go_wp2
  go_loopw [5] (fun v5 wr => v5 = .int .i64 kk ∧ wr = w1) (fun _ _ => 0)
  case atStart => exact ⟨rfl, rfl⟩
  case round =>
    obtain ⟨rfl, hw⟩ := hrel
    obtain rfl := hw.symm
    have HQ9 : Hid (Qd (evW w1 w.heap.size 0 ⟨#[]⟩ (.slice none 0 0) ⟨#[]⟩) b B tx q vo vt op o) := by
      have hQ := HQ1.out
      have e1 : (w1.setCell ⟨w.heap.size, 0, none⟩ (.int .i64 0)).heap[w.heap.size]? = some (.cells #[.int .i64 0, .string ⟨#[]⟩, .slice none 0 0, .string ⟨#[]⟩] 66 (0, 0)) := by simp [World.setCell, Array.getElem?_modify, HC2.out]
      have e2 : ((w1.setCell ⟨w.heap.size, 0, none⟩ (.int .i64 0)).setCell ⟨w.heap.size, 1, none⟩ (.string ⟨#[]⟩)).heap[w.heap.size]? = some (.cells #[.int .i64 0, .string ⟨#[]⟩, .slice none 0 0, .string ⟨#[]⟩] 66 (0, 0)) := by rw [World.setCell]; simp [Array.getElem?_modify, e1]
      have e3 : (((w1.setCell ⟨w.heap.size, 0, none⟩ (.int .i64 0)).setCell ⟨w.heap.size, 1, none⟩ (.string ⟨#[]⟩)).setCell ⟨w.heap.size, 2, none⟩ (.slice none 0 0)).heap[w.heap.size]? = some (.cells #[.int .i64 0, .string ⟨#[]⟩, .slice none 0 0, .string ⟨#[]⟩] 66 (0, 0)) := by rw [World.setCell]; simp [Array.getElem?_modify, e2]
      unfold evW
      exact (((hQ.setOther HC2.out (by decide) (by decide) (by omega) _ _).setOther e1 (by decide) (by decide) (by omega) _ _).setOther e2 (by decide) (by decide) (by omega) _ _).setOther e3 (by decide) (by decide) (by omega) _ _
    have HT9 : Hid (Turn (fun k => k = b) w (evW w1 w.heap.size 0 ⟨#[]⟩ (.slice none 0 0) ⟨#[]⟩)) := by
      unfold evW
      exact (((HT1.out.setNew (p := ⟨w.heap.size, 0, none⟩) (Nat.le_refl _) _).setNew (p := ⟨w.heap.size, 1, none⟩) (Nat.le_refl _) _).setNew (p := ⟨w.heap.size, 2, none⟩) (Nat.le_refl _) _).setNew (p := ⟨w.heap.size, 3, none⟩) (Nat.le_refl _) _
    by_cases hk2 : kk = 2
    · have t1 : (kk == 2) = true := by rw [hk2]; rfl
      clear hk2
      go_wp2_with fail
      refine (qok_any w1 b B tx q vo vt op o HQ1.out).mono ?_
      rintro e w8 ⟨rfl, hw8⟩
      obtain rfl := hw8.symm
      go_wp2_with fail
      refine (qok_any w1 b B tx q vo vt op o HQ1.out).mono ?_
      rintro e w8 ⟨rfl, hw8⟩
      obtain rfl := hw8.symm
      go_wp2
      obtain ⟨hc0, he, hpl, hM, ho⟩ := HR9.out
      exact bodyPost_ret (v := evNo) (by simp [results, Tryz.results30, go_sem, evV, r0, r1, r2, r3]) rfl ⟨rfl, ⟨hc0, q, vo, vt, op, o, HQ9.out, he, hpl, hM, ho⟩, HT9.out⟩
    · have t1 : (kk == 2) = false := beq_eq_false_iff_ne.2 hk2
      clear hk2
      go_wp2_with fail
      refine (qok_any w1 b B tx q vo vt op o HQ1.out).mono ?_
      rintro e w8 ⟨rfl, hw8⟩
      obtain rfl := hw8.symm
      go_wp2
      obtain ⟨hc0, he, hpl, hM, ho⟩ := HR9.out
      exact bodyPost_ret (v := evNo) (by simp [results, Tryz.results30, go_sem, evV, r0, r1, r2, r3]) rfl ⟨rfl, ⟨hc0, q, vo, vt, op, o, HQ9.out, he, hpl, hM, ho⟩, HT9.out⟩

end Go.Proofs.YtmifejkddgcbmabGreat

/- The document's reader: the names that are open, made anew. -/
namespace Go.Proofs.YtmifejkddgcbmabGreat
open Go.RowKit
set_option linter.unusedVariables false
set_option linter.unusedSimpArgs false
attribute [local go_sem] Bel.cell Bel.fz

theorem infoS : InfoOf Tryz.prog 9 (.string ⟨#[]⟩) 1 16 := by unfold InfoOf; kernel_rfl

/-- append as a step of a statement whose order is open. -/
theorem step_app {P : Program} {t e : TypeId} {z : Value} {size bytes : Nat} {w : World} {ops : Array Oper} {o : Oper} {ac : Act} {K : Act → World → Prop} {Q : Exit → Act → World → Prop} {E : Prop} (hgd : o.guard = none) (s x : Operand)
    (ho : o.op = .call { callee := .builtin .append, args := #[s, x], argTypes := #[t, t] }) (ht : P.underlying t = some (.slice e)) (hi : InfoOf P e z size bytes) (hzs : z.cells.size = size) (hsz : 0 < size)
    (base : Nat) (v : Value) (n : Nat) (xs : List Value) (hs : ac.eval s = v) (hown : w.ownsRow base e size v n xs) (a : Option Addr) (m c : Nat) (news : List Value) (hx : ac.eval x = .slice a m c) (hl : news.length = m * size)
    (hnews : ∀ j u, news[j]? = some u → ∃ ad, a = some ad ∧ w.cell? (ad.add j) = some u) (h1 : ∀ u ∈ news, u.oneCell' = true) (h63 : n + m ≤ maxLen) (hbytes : (n + m) * bytes ≤ 140737488355328) (hbase : base ≤ w.heap.size)
    (hK : ∀ v' w', w'.ownsRow base e size v' (n + m) (xs ++ news) → w.grownBy w' v.ownBlock → (v' = .slice none 0 0 ↔ v = .slice none 0 0 ∧ m = 0) → (v'.ownBlock = v.ownBlock ∨ v'.ownBlock = some w.heap.size) → K (ac.put o.dst v') w') :
    if Region.wanted o (yielded ops ac.tmps) = true then Oper.wp P o ac w K Q else E := by
  have hw : Region.wanted o (yielded ops ac.tmps) = true := by simp [Region.wanted, hgd]
  rw [if_pos hw]
  obtain ⟨v', w', hr, h2, h3, h4, h5⟩ := run_app (ty := o.type) ht hi hzs hsz w base v n xs hown a m c news hl hnews h1 h63 hbytes hbase
  unfold Oper.wp execOp
  simp only [ho, resolve, invoke, builtin, Sem.run_bind, Sem.run_pure, Result.andThen_ok, List.map_toArray, List.map_cons, List.map_nil, hs, hx, hr]
  exact hK v' w' h2 h3 h4 h5

theorem below_grown {N : Nat} {a w w' : World} {row : Option Nat} (h : Below N a w) (hg : w.grownBy w' row) (hN : N ≤ w.heap.size) (hr : ∀ k, row = some k → N ≤ k) : Below N a w' :=
  ⟨hg.os.trans h.os, hg.tape.trans h.tape, hg.output.trans h.output, Nat.le_trans h.size hg.size, fun k hk => (hg.block k (by omega) (fun e => by have := hr k e.symm; omega)).trans (h.block k hk)⟩

/-- Strings of a row as what an append of them takes. -/
theorem names_news {w : World} {base : Nat} {e : TypeId} {a : Option Addr} {cap : Nat} {op : List ByteArray} (h : w.ownsRow base e 1 (.slice a op.length cap) op.length (op.map Value.string)) {W : World} (hb : Below w.heap.size w W) (m : Nat) : ∀ j u, ((op.take m).map Value.string)[j]? = some u → ∃ ad, a = some ad ∧ W.cell? (ad.add j) = some u := by
  intro j u hu
  obtain ⟨-, -, r3⟩ := row_cell h
  have hu2 : (op.map Value.string)[j]? = some u := by
    rw [List.getElem?_map] at hu ⊢
    by_cases hj : j < m
    · rw [List.getElem?_take_of_lt hj] at hu; exact hu
    · rw [List.getElem?_eq_none (by rw [List.length_take]; omega)] at hu; cases hu
  obtain ⟨g, rfl, -, hg, hc⟩ := r3 j u hu2
  refine ⟨_, rfl, ?_⟩
  rw [addr_add]
  exact (hb.cell (p := ⟨g, j, none⟩) hg).trans hc
theorem names_one (l : List ByteArray) : ∀ u ∈ l.map Value.string, u.oneCell' = true := by
  intro u hu
  obtain ⟨x, -, rfl⟩ := List.mem_map.1 hu
  rfl

theorem one_news (w : World) (x : ByteArray) : ∀ j u, [Value.string x][j]? = some u → ∃ ad, some (⟨w.heap.size, 0, none⟩ : Addr) = some ad ∧ (w.alloc (.cells #[.string x] 9)).cell? (ad.add j) = some u := by
  intro j u hu
  cases j with
  | zero =>
    simp only [List.getElem?_cons_zero, Option.some.injEq] at hu
    subst hu
    refine ⟨_, rfl, ?_⟩
    rw [addr_add]
    exact (isCells_new w _ _).cell 0
  | succ j => simp at hu

theorem one_at {W : World} {X : Nat} {x : ByteArray} (h : W.cell? ⟨X, 0, none⟩ = some (.string x)) : ∀ j u, [Value.string x][j]? = some u → ∃ ad, some (⟨X, 0, none⟩ : Addr) = some ad ∧ W.cell? (ad.add j) = some u := by
  intro j u hu
  cases j with
  | zero =>
    simp only [List.getElem?_cons_zero, Option.some.injEq] at hu
    subst hu
    exact ⟨_, rfl, by rw [addr_add]; exact h⟩
  | succ j => simp at hu
theorem grown_cell {W w6 : World} {row : Option Nat} {X j : Nat} {v : Value} (hg : W.grownBy w6 row) (h : W.cell? ⟨X, j, none⟩ = some v) (hl : X < W.heap.size) (hne : row ≠ some X) : w6.cell? ⟨X, j, none⟩ = some v := by
  have := hg.block X hl (fun e => hne e.symm)
  simp only [World.cell?, this] at h ⊢
  exact h

/-- The two orders in which a row and what is appended to it are made. -/
theorem two_rows (w5 : World) (x : ByteArray) :
    (Below w5.heap.size w5 ((w5.alloc (.cells #[] 9)).alloc (.cells #[.string x] 9)).drew ∧ ((w5.alloc (.cells #[] 9)).alloc (.cells #[.string x] 9)).drew.ownsRow w5.heap.size 9 1 (.slice (some ⟨w5.heap.size, 0, none⟩) 0 0) 0 [] ∧ ((w5.alloc (.cells #[] 9)).alloc (.cells #[.string x] 9)).drew.cell? ⟨w5.heap.size + 1, 0, none⟩ = some (.string x) ∧ w5.heap.size + 1 < ((w5.alloc (.cells #[] 9)).alloc (.cells #[.string x] 9)).drew.heap.size) ∧
    (Below w5.heap.size w5 ((w5.alloc (.cells #[.string x] 9)).alloc (.cells #[] 9)).drew ∧ ((w5.alloc (.cells #[.string x] 9)).alloc (.cells #[] 9)).drew.ownsRow w5.heap.size 9 1 (.slice (some ⟨w5.heap.size + 1, 0, none⟩) 0 0) 0 [] ∧ ((w5.alloc (.cells #[.string x] 9)).alloc (.cells #[] 9)).drew.cell? ⟨w5.heap.size, 0, none⟩ = some (.string x) ∧ w5.heap.size < ((w5.alloc (.cells #[.string x] 9)).alloc (.cells #[] 9)).drew.heap.size) := by
  have e1 : (w5.alloc (.cells #[] 9)).heap.size = w5.heap.size + 1 := by simp
  have e2 : (w5.alloc (.cells #[.string x] 9)).heap.size = w5.heap.size + 1 := by simp
  refine ⟨⟨(((Below.refl _ w5).alloc (Nat.le_refl _) _).alloc (by simp) _).drew, ?_, ?_, ?_⟩, ⟨(((Below.refl _ w5).alloc (Nat.le_refl _) _).alloc (by simp) _).drew, ?_, ?_, ?_⟩⟩
  · exact (own_of_block (own_new w5 9 1) (fun k hk => by
      have := (own_block_lt (own_new w5 9 1) k hk).2
      exact Below.heap_alloc _ _ _ this)).drew
  · have := (isCells_new (w5.alloc (.cells #[] 9)) #[.string x] 9).cell 0
    rw [e1] at this
    exact this
  · show _ < ((w5.alloc (.cells #[] 9)).alloc (.cells #[.string x] 9)).heap.size
    simp
  · have := own_new (w5.alloc (.cells #[.string x] 9)) 9 1
    rw [e2] at this
    exact (own_base this (fun k hk => by simp only [Value.ownBlock, Option.some.injEq] at hk; omega)).drew
  · have h1 := (isCells_new w5 #[.string x] 9).cell 0
    have h2 := Below.heap_alloc (w5.alloc (.cells #[.string x] 9)) (.cells #[] 9) w5.heap.size (by simp)
    show ((w5.alloc (.cells #[.string x] 9)).alloc (.cells #[] 9)).cell? ⟨w5.heap.size, 0, none⟩ = _
    simp only [World.cell?, h2] at h1 ⊢
    exact h1
  · show _ < ((w5.alloc (.cells #[.string x] 9)).alloc (.cells #[] 9)).heap.size
    simp
    omega

/-- Other names are open. -/
theorem Qd.opens {w : World} {b B : Nat} {tx : ByteArray} {q : Qs} {vo vt v2 : Value} {op op2 : List ByteArray} (h : Qd w b B tx q vo vt op []) (hv : w.ownsRow 0 9 1 v2 op2.length (op2.map Value.string)) (hb : v2.ownBlock ≠ some b) : Qd (w.setCell ⟨b, 5, none⟩ v2) b w.heap.size tx q v2 vt op2 [] := by
  have hn := h.nl rfl
  subst hn
  refine ⟨?_, ⟨rfl, .inl ⟨rfl, rfl⟩⟩, ?_, fun k hk => ⟨(own_block_lt hv k hk).2, fun e => hb (by rw [hk, e])⟩, Nat.lt_of_lt_of_le h.ltb h.leB, by simp [World.setCell], fun _ => rfl⟩
  · simp [World.setCell, Array.getElem?_modify, h.cel, qC]
  · exact own_of_block hv (fun k hk => Below.heap_setCell _ _ _ _ (fun e => hb (by rw [hk]; exact congrArg some e)))
/-- The answer is told. -/
theorem Qd.ev {w1 : World} {b B r : Nat} {tx : ByteArray} {q : Qs} {vo vt : Value} {op : List ByteArray} (h : Qd w1 b B tx q vo vt op []) (hr : w1.heap[r]? = some (.cells #[.int .i64 0, .string ⟨#[]⟩, .slice none 0 0, .string ⟨#[]⟩] 66 (0, 0))) (hb : b ≠ r) (k : Int) (n : ByteArray) (va : Value) (t : ByteArray) : Qd (evW w1 r k n va t) b (evW w1 r k n va t).heap.size tx q vo vt op [] := by
  have hn := h.nl rfl
  subst hn
  refine ⟨(evW_other _ _ _ _ _ _ _ hb).trans h.cel, ⟨rfl, .inl ⟨rfl, rfl⟩⟩, own_of_block h.opn (fun j hj => evW_other _ _ _ _ _ _ _ (fun e => own_not h.opn hr (by decide) (by rw [hj, e]))), fun j hj => ⟨by rw [evW_size]; exact (own_block_lt h.opn j hj).2, (h.opb j hj).2⟩, ?_, Nat.le_refl _, fun _ => rfl⟩
  rw [evW_size]
  exact Nat.lt_of_lt_of_le h.ltb h.leB

end Go.Proofs.YtmifejkddgcbmabGreat
