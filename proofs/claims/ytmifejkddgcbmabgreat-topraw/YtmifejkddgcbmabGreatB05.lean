/- What the document's reader puts into a text. -/
import Derived.Test.YtmifejkddgcbmabGreatB04
namespace Go.Proofs.YtmifejkddgcbmabGreat
open Go.RowKit
set_option linter.unusedVariables false
set_option linter.unusedSimpArgs false
attribute [local go_sem] Bel.cell Bel.fz

def okQ (s : St) (h : Bool) : Qs := ⟨s.at_, 0, 0, s.nodes, h⟩
def hasB (o : Bs) : Bool := !(o.isEmpty)
/-- It is where the plain one is, and nothing is wrong. -/
def QS (w : World) (b B : Nat) (tx : ByteArray) (s : St) (op : List ByteArray) (o : Bs) : Prop := op.length = s.op ∧ ∃ vo vt, Qd w b B tx (okQ s (hasB o)) vo vt op o
/-- Something is wrong. -/
def QE (w : World) (b B : Nat) (tx : ByteArray) (M : Nat) (p : Nat) (c : Int) : Prop := c ≠ 0 ∧ ∃ q vo vt op o, Qd w b B tx q vo vt op o ∧ q.err = c ∧ q.place = p ∧ q.at_ ≤ M ∧ o.length ≤ 100000
/-- What a call of it leaves. -/
def QPost {α : Type} (w : World) (b B : Nat) (tx : ByteArray) (M : Nat) (op : List ByteArray) (r : Rs α) (O : α → Bs) (V : α → Ending → World → Prop) (e : Ending) (w' : World) : Prop := match r with
  | .inl (a, s) => V a e w' ∧ QS w' b B tx s op (O a) ∧ Turn (fun k => k = b ∨ B ≤ k) w w'
  | .inr (p, c) => (∃ v, e = .returned v) ∧ QE w' b B tx M p c ∧ Turn (fun k => k = b ∨ B ≤ k) w w'

theorem QPost.yes {α : Type} {w : World} {b B : Nat} {tx : ByteArray} {M : Nat} {op : List ByteArray} {r : Rs α} {O : α → Bs} {V : α → Ending → World → Prop} {e : Ending} {w' : World} {a : α} {s : St} (h : r = .inl (a, s)) (hv : V a e w') (hq : QS w' b B tx s op (O a)) (ht : Turn (fun k => k = b ∨ B ≤ k) w w') : QPost w b B tx M op r O V e w' := by
  subst h; exact ⟨hv, hq, ht⟩
theorem QPost.no {α : Type} {w : World} {b B : Nat} {tx : ByteArray} {M : Nat} {op : List ByteArray} {r : Rs α} {O : α → Bs} {V : α → Ending → World → Prop} {v : Value} {w' : World} {p : Nat} {c : Int} (h : r = .inr (p, c)) (hq : QE w' b B tx M p c) (ht : Turn (fun k => k = b ∨ B ≤ k) w w') : QPost w b B tx M op r O V (.returned v) w' := by
  subst h; exact ⟨⟨v, rfl⟩, hq, ht⟩

set_option maxRecDepth 100000 in
/-- A node begins: also where something is wrong already. -/
theorem qbegins_any (w : World) (b B : Nat) (tx : ByteArray) (s : St) (op : List ByteArray) (o : Bs) (hh : Bool) (vo vt : Value) (h : Qd w b B tx (okQ s hh) vo vt op o) (hop : op.length = s.op) (ok : Ok tx s) (p : Nat) :
    Calls Tryz.prog 48 #[.pointer (some ⟨b, 0, none⟩), .int .i64 (p : Int)] w fun e w' => e = .returned (.tuple #[]) ∧ Turn (fun x => x = b) w w' ∧ match beginP s p with
      | .inl (_, s1) => Qd w' b B tx (okQ s1 hh) vo vt op o
      | .inr (p', c) => Qd w' b B tx { okQ s hh with place := p', err := c } vo vt op o := by
  have HQ : Hid (Qd w b B tx (okQ s hh) vo vt op o) := h
  obtain ⟨h0, h1, h2, h3, h4, h5, h6, h7, fz, hb⟩ := h.facts
  have hbad := qbad_any w b B tx _ vo vt op o h p 2
  obtain ⟨va, vcap, rfl⟩ := own_slice h.opn
  obtain ⟨k1, k2, k3, k4⟩ := ok
  have e4 : (okQ s hh).n = s.nodes := rfl
  rw [e4] at h4
  clear h
  by_cases hn : s.nodes = 4096 ∨ s.op = 64
  · have hx : beginP s p = .inr (p, 2) := by simp [beginP, hn]
    rw [hx]
    simp only
    have hbq : badQ (okQ s hh) p 2 = { okQ s hh with place := p, err := 2 } := by simp [badQ, okQ]
    rw [hbq] at hbad
    by_cases hn1 : s.nodes = 4096
    · have t1 : (4096 : Int) ≤ (s.nodes : Int) := by omega
      clear hn hx hn1 hbq hop
      go_enter Tryz.func48, Tryz.ntmps48
      go_wp2_with fail
      refine hbad.mono ?_
      rintro e w1 ⟨rfl, hq1, ht1⟩
      go_wp2
      first | go_end0 | refine bodyPost_ret (results_none rfl _ _ _) rfl ?_
      exact ⟨rfl, ht1, hq1⟩
    · have t1 : ¬ (4096 : Int) ≤ (s.nodes : Int) := by omega
      have t2 : (64 : Int) ≤ (op.length : Int) := by omega
      clear hn hx hn1 hbq hop
      go_enter Tryz.func48, Tryz.ntmps48
      go_wp2_with fail
      refine hbad.mono ?_
      rintro e w1 ⟨rfl, hq1, ht1⟩
      go_wp2
      first | go_end0 | refine bodyPost_ret (results_none rfl _ _ _) rfl ?_
      exact ⟨rfl, ht1, hq1⟩
  · have hx : beginP s p = .inl ((), { s with nodes := s.nodes + 1 }) := by simp only [beginP, hn, if_false]
    rw [hx]
    simp only
    have t1 : ¬ (4096 : Int) ≤ (s.nodes : Int) := by omega
    have t2 : ¬ (64 : Int) ≤ (op.length : Int) := by omega
    clear hn hx hop
    go_enter Tryz.func48, Tryz.ntmps48
    go_wp2
    go_end0
    exact ⟨rfl, turn_set (Turn.refl _ w) _ _, HQ.out.set 4 _ (by simp [qC, okQ])⟩

theorem Qd.app {w w3 : World} {b B : Nat} {tx : ByteArray} {q : Qs} {vo vt vt' : Value} {op : List ByteArray} {o o' : Bs} (h : Qd w b B tx q vo vt op o) (hown : Own w3 B vt' o') (hg : w.grownBy w3 vt.ownBlock) (hne : o' ≠ []) :
    Qd (w3.setCell ⟨b, 6, none⟩ vt') b B tx q vo vt' op o' ∧ Turn (fun k => k = b ∨ B ≤ k) w (w3.setCell ⟨b, 6, none⟩ vt') := by
  have hb := h.ltb
  have hB := h.leB
  have hnb : vt.ownBlock ≠ some b := fun e => by have := (own_block_lt h.txt b e).1; omega
  have hcel : w3.heap[b]? = some (.cells (qC tx q vo vt) 49 (0, 0)) := (hg.block b (by omega) (fun e => hnb e.symm)).trans h.cel
  have hsz := hg.size
  refine ⟨⟨?_, ?_, ?_, h.opb, hb, ?_, fun e => absurd e hne⟩, ?_⟩
  · simp [World.setCell, Array.getElem?_modify, hcel, qC]
  · exact own_of_block hown (fun k' hk => Below.heap_setCell _ _ _ _ (by have := (own_block_lt hown k' hk).1; show k' ≠ b; omega))
  · exact own_of_block h.opn (fun k' hk => (Below.heap_setCell _ _ _ _ (h.opb k' hk).2).trans (hg.block k' (own_block_lt h.opn k' hk).2 (fun e => by have := (own_block_lt h.txt k' e.symm).1; have := (h.opb k' hk).1; omega)))
  · simp [World.setCell]; omega
  · have ht : Turn (fun k => k = b ∨ B ≤ k) w w3 := ⟨hg.os, hg.tape, hg.output, hg.size, fun k hk hA => hg.block k hk (fun e => hA (.inr (own_block_lt h.txt k e.symm).1))⟩
    exact ht.setCell (p := ⟨b, 6, none⟩) (.inl rfl) _
theorem Qd.cells {w w3 : World} {b B : Nat} {tx : ByteArray} {q : Qs} {vo vt : Value} {op : List ByteArray} {o : Bs} (h : Qd w b B tx q vo vt op o) (hg : w.grownBy w3 vt.ownBlock) :
    w3.cell? ⟨b, 0, none⟩ = some (.string tx) ∧ w3.cell? ⟨b, 1, none⟩ = some (.int .i64 (q.at_ : Int)) ∧ w3.cell? ⟨b, 2, none⟩ = some (.int .i64 (q.place : Int)) ∧ w3.cell? ⟨b, 3, none⟩ = some (.int .i64 q.err) ∧ w3.cell? ⟨b, 4, none⟩ = some (.int .i64 (q.n : Int)) ∧ w3.cell? ⟨b, 5, none⟩ = some vo ∧ w3.cell? ⟨b, 6, none⟩ = some vt ∧ w3.cell? ⟨b, 7, none⟩ = some (.bool q.has) ∧ (∀ j, w3.frozen? ⟨b, j, none⟩ = false) := by
  have hnb : vt.ownBlock ≠ some b := fun e => by have := (own_block_lt h.txt b e).1; have := h.ltb; omega
  have hc : w3.heap[b]? = some (.cells (qC tx q vo vt) 49 (0, 0)) := (hg.block b (Nat.lt_of_lt_of_le h.ltb h.leB) (fun e => hnb e.symm)).trans h.cel
  refine ⟨?_, ?_, ?_, ?_, ?_, ?_, ?_, ?_, fun j => ?_⟩ <;> simp [World.cell?, World.frozen?, hc, qC]

theorem hasB_app {o x : Bs} (h : x ≠ []) : hasB (o ++ x) = true := by
  unfold hasB
  cases o with
  | nil => cases x with
    | nil => exact absurd rfl h
    | cons => rfl
  | cons => rfl

set_option maxRecDepth 100000 in
set_option maxHeartbeats 2000000 in
theorem qadd_at (w : World) (b B : Nat) (tx : ByteArray) (s : St) (op : List ByteArray) (o : Bs) (h : QS w b B tx s op o) (ok : Ok tx s) (hl : o.length ≤ 16384) (x : ByteArray) (hx0 : 0 < x.size) (hx : x.size ≤ 40) (a : Nat) :
    Calls Tryz.prog 104 #[.pointer (some ⟨b, 0, none⟩), .string x, .int .i64 (a : Int)] w (fun e w' => e = .returned (.tuple #[]) ∧ QPost w b B tx tx.size op (putP s o x.data.toList a) id (fun _ e w' => e = .returned (.tuple #[])) e w' ∧ w'.cell? ⟨b, 0, none⟩ = some (.string tx) ∧ w'.cell? ⟨b, 1, none⟩ = some (.int .i64 (s.at_ : Int))) := by
  obtain ⟨hop, vo, vt, h⟩ := h
  obtain ⟨sa, scap, rfl⟩ := h.txt.slice
  obtain ⟨i0, hi, hz0, hz1, hz2⟩ := info_parts info5
  have hxl := size_list x
  have hxne : x.data.toList ≠ [] := fun e => by rw [← List.length_eq_zero_iff, hxl] at e; omega
  have HXN : Hid (x.data.toList ≠ []) := hxne
  have HQ : Hid (Qd w b B tx (okQ s (hasB o)) vo (.slice sa o.length scap) op o) := h
  have HOP : Hid (op.length = s.op) := hop
  have k2 := ok.at_
  obtain ⟨h0, h1, h2, h3, h4, h5, h6, h7, fz, hb⟩ := h.facts
  by_cases ho : o = []
  · have eh : hasB o = false := by rw [ho]; rfl
    have hbg := qbegins_any w b B tx s op o (hasB o) vo _ h hop ok a
    have e7 : (okQ s (hasB o)).has = hasB o := rfl
    rw [e7, eh] at h7
    have ho0 : o.length = 0 := by rw [ho]; rfl
    have t3 : ¬ (16384 : Int) < (o.length : Int) + (x.size : Int) := by omega
    have HO0 : Hid (o = []) := ho
    clear ho0
    cases hbp : beginP s a with
    | inr q_ =>
      obtain ⟨p, c⟩ := q_
      rw [hbp] at hbg
      have HG : Hid (putP s o x.data.toList a = .inr (p, c)) := by show putP _ _ _ _ = _; simp only [putP, ho, if_true, hbp]
      have hc : c ≠ 0 := by
        unfold beginP at hbp
        split at hbp
        · cases hbp; decide
        · cases hbp
      have HC : Hid (c ≠ 0) := hc
      clear hbp h ho hop hxne hc
      go_enter Tryz.func104, Tryz.ntmps104
      go_wp2_with fail
      refine hbg.mono ?_
      rintro e w1 ⟨rfl, ht1, hq1⟩
      have HQ1 : Hid (Qd (w1.setCell ⟨b, 7, none⟩ (.bool true)) b B tx { okQ s true with place := p, err := c } vo (.slice sa o.length scap) op o) := hq1.set 7 _ (by simp [qC, okQ])
      have HT1 : Hid (Turn (fun k => k = b ∨ B ≤ k) w (w1.setCell ⟨b, 7, none⟩ (.bool true))) := (turn_set ht1 _ _).mono (fun k _ e => .inl e)
      clear h0 h1 h2 h3 h4 h5 h6 h7 fz hb
      obtain ⟨h0, h1, h2, h3, h4, h5, h6, h7, fz, hb⟩ := hq1.facts
      clear hbg ht1 hq1
      have hown : (w1.setCell ⟨b, 7, none⟩ (.bool true)).ownsRow B 5 1 (.slice sa o.length scap) o.length (Lib.byteCells o) := HQ1.out.txt
      have hlB := HQ1.out.leB
      have hltb := HQ1.out.ltb
      go_wp2_with (at_builtin; refine Lib.wpList_append_own_string _ rfl _ _ 47 9 rfl B 5 i0 Tryz.underlying47 Tryz.underlying9 hi hz0 hz1 hz2 _ _ _ rfl hown x rfl ?c3 ?c4 (by omega) ?_)
      case c3 => unfold maxLen; omega
      case c4 => omega
      intro v' w9 hown' hgrow _
      have HO9 : Hid (Own w9 B v' (o ++ x.data.toList)) := by
        show w9.ownsRow B 5 1 v' _ _
        rw [Lib.byteCells_append, ← Lib.strCells_eq, show (o ++ x.data.toList).length = o.length + x.size by rw [List.length_append, size_list]]
        exact hown'
      obtain ⟨va9, vcap9, hv9⟩ := HO9.out.slice
      rw [List.length_append, hxl] at hv9
      subst hv9
      obtain ⟨HQ9, HT9⟩ := HQ1.out.app HO9.out hgrow (by simp [HXN.out])
      have HQ9 : Hid _ := HQ9
      have HT9 : Hid _ := (HT1.out.trans HT9)
      have ⟨d0, d1, d2, d3, d4, d5, d6, d7, fz9⟩ := Qd.cells HQ1.out hgrow
      clear hown hown' hgrow HO9
      go_wp2
      go_end0
      exact ⟨rfl, QPost.no HG.out ⟨HC.out, _, _, _, _, _, HQ9.out, rfl, rfl, k2, by rw [List.length_append, hxl]; omega⟩ HT9.out, HQ9.out.facts.1, HQ9.out.facts.2.1⟩
    | inl q_ =>
      obtain ⟨u, s1⟩ := q_
      rw [hbp] at hbg
      obtain ⟨es, -, -⟩ := beginP_ok hbp
      have HG : Hid (putP s o x.data.toList a = .inl ((o ++ x.data.toList), s1)) := by
        show putP _ _ _ _ = _
        simp only [putP, ho, if_true, hbp, growP, hxl, List.length_nil, Nat.zero_add]
        rw [if_neg (by omega)]
      have HS1 : Hid (s1.op = s.op) := by rw [es]; exact rfl
      have HAT1 : Hid (s1.at_ = s.at_) := by rw [es]; exact rfl
      clear hbp h ho hop hxne es
      go_enter Tryz.func104, Tryz.ntmps104
      go_wp2_with fail
      refine hbg.mono ?_
      rintro e w1 ⟨rfl, ht1, hq1⟩
      have HQ1 : Hid (Qd (w1.setCell ⟨b, 7, none⟩ (.bool true)) b B tx (okQ s1 true) vo (.slice sa o.length scap) op o) := hq1.set 7 _ (by simp [qC, okQ])
      have HT1 : Hid (Turn (fun k => k = b ∨ B ≤ k) w (w1.setCell ⟨b, 7, none⟩ (.bool true))) := (turn_set ht1 _ _).mono (fun k _ e => .inl e)
      clear h0 h1 h2 h3 h4 h5 h6 h7 fz hb
      obtain ⟨h0, h1, h2, h3, h4, h5, h6, h7, fz, hb⟩ := hq1.facts
      clear hbg ht1 hq1
      have hown : (w1.setCell ⟨b, 7, none⟩ (.bool true)).ownsRow B 5 1 (.slice sa o.length scap) o.length (Lib.byteCells o) := HQ1.out.txt
      have hlB := HQ1.out.leB
      have hltb := HQ1.out.ltb
      go_wp2_with (at_builtin; refine Lib.wpList_append_own_string _ rfl _ _ 47 9 rfl B 5 i0 Tryz.underlying47 Tryz.underlying9 hi hz0 hz1 hz2 _ _ _ rfl hown x rfl ?c3 ?c4 (by omega) ?_)
      case c3 => unfold maxLen; omega
      case c4 => omega
      intro v' w9 hown' hgrow _
      have HO9 : Hid (Own w9 B v' (o ++ x.data.toList)) := by
        show w9.ownsRow B 5 1 v' _ _
        rw [Lib.byteCells_append, ← Lib.strCells_eq, show (o ++ x.data.toList).length = o.length + x.size by rw [List.length_append, size_list]]
        exact hown'
      obtain ⟨va9, vcap9, hv9⟩ := HO9.out.slice
      rw [List.length_append, hxl] at hv9
      subst hv9
      obtain ⟨HQ9, HT9⟩ := HQ1.out.app HO9.out hgrow (by simp [HXN.out])
      have HQ9 : Hid _ := HQ9
      have HT9 : Hid _ := (HT1.out.trans HT9)
      have ⟨d0, d1, d2, d3, d4, d5, d6, d7, fz9⟩ := Qd.cells HQ1.out hgrow
      clear hown hown' hgrow HO9
      go_wp2
      go_end0
      exact ⟨rfl, QPost.yes HG.out rfl ⟨by rw [HS1.out]; exact HOP.out, _, _, by rw [show hasB (id (o ++ x.data.toList)) = true from hasB_app HXN.out]; exact HQ9.out⟩ HT9.out, HQ9.out.facts.1, HAT1.out ▸ HQ9.out.facts.2.1⟩
  · have eh : hasB o = true := by
      unfold hasB
      cases o with
      | nil => exact absurd rfl ho
      | cons => rfl
    have e7 : (okQ s (hasB o)).has = hasB o := rfl
    rw [e7, eh] at h7
    by_cases hgt : 16384 < o.length + x.size
    · have HG : Hid (putP s o x.data.toList a = .inr (a, 2)) := by
        show putP _ _ _ _ = _
        simp only [putP, ho, if_false, growP, hxl]
        rw [if_pos hgt]
      have t3 : (16384 : Int) < (o.length : Int) + (x.size : Int) := by omega
      have hbad := qbad_any w b B tx _ vo _ op o h a 2
      clear h ho hop hxne eh hgt
      go_enter Tryz.func104, Tryz.ntmps104
      go_wp2_with fail
      refine hbad.mono ?_
      rintro e w1 ⟨rfl, hq1, ht1⟩
      have HQ1 : Hid (Qd w1 b B tx (badQ (okQ s (hasB o)) a 2) vo (.slice sa o.length scap) op o) := hq1
      have HT1 : Hid (Turn (fun k => k = b ∨ B ≤ k) w w1) := ht1.mono (fun k _ e => .inl e)
      clear h0 h1 h2 h3 h4 h5 h6 h7 fz hb
      obtain ⟨h0, h1, h2, h3, h4, h5, h6, h7, fz, hb⟩ := hq1.facts
      clear hbad ht1 hq1
      have hown : w1.ownsRow B 5 1 (.slice sa o.length scap) o.length (Lib.byteCells o) := HQ1.out.txt
      have hlB := HQ1.out.leB
      have hltb := HQ1.out.ltb
      go_wp2_with (at_builtin; refine Lib.wpList_append_own_string _ rfl _ _ 47 9 rfl B 5 i0 Tryz.underlying47 Tryz.underlying9 hi hz0 hz1 hz2 _ _ _ rfl hown x rfl ?c3 ?c4 (by omega) ?_)
      case c3 => unfold maxLen; omega
      case c4 => omega
      intro v' w9 hown' hgrow _
      have HO9 : Hid (Own w9 B v' (o ++ x.data.toList)) := by
        show w9.ownsRow B 5 1 v' _ _
        rw [Lib.byteCells_append, ← Lib.strCells_eq, show (o ++ x.data.toList).length = o.length + x.size by rw [List.length_append, size_list]]
        exact hown'
      obtain ⟨va9, vcap9, hv9⟩ := HO9.out.slice
      rw [List.length_append, hxl] at hv9
      subst hv9
      obtain ⟨HQ9, HT9⟩ := HQ1.out.app HO9.out hgrow (by simp [HXN.out])
      have HQ9 : Hid _ := HQ9
      have HT9 : Hid _ := (HT1.out.trans HT9)
      have ⟨d0, d1, d2, d3, d4, d5, d6, d7, fz9⟩ := Qd.cells HQ1.out hgrow
      clear hown hown' hgrow HO9
      go_wp2
      go_end0
      exact ⟨rfl, QPost.no HG.out ⟨by decide, _, _, _, _, _, HQ9.out, rfl, rfl, k2, by rw [List.length_append, hxl]; omega⟩ HT9.out, HQ9.out.facts.1, HQ9.out.facts.2.1⟩
    · have HG : Hid (putP s o x.data.toList a = .inl ((o ++ x.data.toList), s)) := by
        show putP _ _ _ _ = _
        simp only [putP, ho, if_false, growP, hxl]
        rw [if_neg hgt]
      have t3 : ¬ (16384 : Int) < (o.length : Int) + (x.size : Int) := by omega
      have HT0 : Hid (Turn (fun k => k = b ∨ B ≤ k) w w) := Turn.refl _ _
      have HEH : Hid (hasB o = true) := eh
      clear h ho hop hxne eh hgt
      go_enter Tryz.func104, Tryz.ntmps104
      have hown : w.ownsRow B 5 1 (.slice sa o.length scap) o.length (Lib.byteCells o) := HQ.out.txt
      have hlB := HQ.out.leB
      have hltb := HQ.out.ltb
      go_wp2_with (at_builtin; refine Lib.wpList_append_own_string _ rfl _ _ 47 9 rfl B 5 i0 Tryz.underlying47 Tryz.underlying9 hi hz0 hz1 hz2 _ _ _ rfl hown x rfl ?c3 ?c4 (by omega) ?_)
      case c3 => unfold maxLen; omega
      case c4 => omega
      intro v' w9 hown' hgrow _
      have HO9 : Hid (Own w9 B v' (o ++ x.data.toList)) := by
        show w9.ownsRow B 5 1 v' _ _
        rw [Lib.byteCells_append, ← Lib.strCells_eq, show (o ++ x.data.toList).length = o.length + x.size by rw [List.length_append, size_list]]
        exact hown'
      obtain ⟨va9, vcap9, hv9⟩ := HO9.out.slice
      rw [List.length_append, hxl] at hv9
      subst hv9
      obtain ⟨HQ9, HT9⟩ := HQ.out.app HO9.out hgrow (by simp [HXN.out])
      have HQ9 : Hid _ := HQ9
      have HT9 : Hid _ := (HT0.out.trans HT9)
      have ⟨d0, d1, d2, d3, d4, d5, d6, d7, fz9⟩ := Qd.cells HQ.out hgrow
      clear hown hown' hgrow HO9
      go_wp2
      go_end0
      have q9 := HQ9.out
      rw [HEH.out] at q9
      exact ⟨rfl, QPost.yes HG.out rfl ⟨HOP.out, _, _, by rw [show hasB (id (o ++ x.data.toList)) = true from hasB_app HXN.out]; exact q9⟩ HT9.out, q9.facts.1, q9.facts.2.1⟩

theorem qadd_any (w : World) (b B : Nat) (tx : ByteArray) (s : St) (op : List ByteArray) (o : Bs) (h : QS w b B tx s op o) (ok : Ok tx s) (hl : o.length ≤ 16384) (x : ByteArray) (hx0 : 0 < x.size) (hx : x.size ≤ 40) (a : Nat) :
    Calls Tryz.prog 104 #[.pointer (some ⟨b, 0, none⟩), .string x, .int .i64 (a : Int)] w (QPost w b B tx tx.size op (putP s o x.data.toList a) id fun _ e w' => e = .returned (.tuple #[])) :=
  (qadd_at w b B tx s op o h ok hl x hx0 hx a).mono fun e w' hh => hh.2.1

end Go.Proofs.YtmifejkddgcbmabGreat
