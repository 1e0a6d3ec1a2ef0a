/- The document's reader: a tag. -/
import Derived.Test.YtmifejkddgcbmabGreatB13
import Derived.Test.YtmifejkddgcbmabGreatB14
namespace Go.Proofs.YtmifejkddgcbmabGreat
open Go.RowKit
set_option linter.unusedVariables false
set_option linter.unusedSimpArgs false
attribute [local go_sem] Bel.cell Bel.fz

/-- A tag, from its name on: its name, its attributes, whether it ends at once. -/
def tagQ (l : Bs) (s : St) : Rs (Bs × List Att × Bool) := match nameP l s with
  | .inr (p, e) => .inr (p, e)
  | .inl (n, s2) => match attrsP l s2 with
    | .inr (p, e) => .inr (p, e)
    | .inl (a, s3) => match l[s3.at_]? with
      | none => .inr (s3.at_, 4)
      | some b => if b = 47 then (match expectP l 62 { s3 with at_ := s3.at_ + 1 } with
          | .inr (p, e) => .inr (p, e)
          | .inl (_, s4) => .inl ((n, a, true), s4))
        else match expectP l 62 s3 with
          | .inr (p, e) => .inr (p, e)
          | .inl (_, s4) => .inl ((n, a, false), s4)

theorem own_not {w : World} {base : Nat} {e : TypeId} {size : Nat} {v : Value} {n : Nat} {xs : List Value} {c : Nat} {arr : Array Value} {t : TypeId} {p : Nat × Nat} (h : w.ownsRow base e size v n xs) (hc : w.heap[c]? = some (.cells arr t p)) (hne : t ≠ e) : v.ownBlock ≠ some c := by
  intro hk
  rcases h.2 with ⟨rfl, rfl⟩ | ⟨g, cap, cur, rfl, hb, hh, _⟩
  · cases hk
  · simp only [Value.ownBlock, Option.some.injEq] at hk
    subst hk
    rw [hc] at hh
    simp only [Option.some.injEq, Obj.cells.injEq] at hh
    exact hne hh.2.1

/-- A store into a block that is none of the reader's. -/
theorem Qd.setOther {w : World} {b B : Nat} {tx : ByteArray} {q : Qs} {vo vt : Value} {op : List ByteArray} {o : Bs} (h : Qd w b B tx q vo vt op o) {c : Nat} {arr : Array Value} {t : TypeId} {p : Nat × Nat} (hc : w.heap[c]? = some (.cells arr t p)) (h5 : t ≠ 5) (h9 : t ≠ 9) (hb : b ≠ c) (j : Nat) (v : Value) : Qd (w.setCell ⟨c, j, none⟩ v) b B tx q vo vt op o := by
  refine ⟨(Below.heap_setCell _ _ _ _ hb).trans h.cel, ?_, ?_, h.opb, h.ltb, by simpa [World.setCell] using h.leB, h.nl⟩
  · exact own_of_block h.txt (fun k hk => Below.heap_setCell _ _ _ _ (fun e => own_not h.txt hc h5 (by rw [hk]; exact congrArg some e)))
  · exact own_of_block h.opn (fun k hk => Below.heap_setCell _ _ _ _ (fun e => own_not h.opn hc h9 (by rw [hk]; exact congrArg some e)))

/-- A tag under way lies in block c, its answer in block w.heap.size. -/
structure TagSt (w wr : World) (b B : Nat) (tx : ByteArray) (c : Nat) (n : ByteArray) (va : Value) (em : Bool) (q : Qs) (vo vt : Value) (op : List ByteArray) (o : Bs) : Prop where
  qd : Qd wr b B tx q vo vt op o
  turn : Turn (fun x => x = b) w wr
  res : wr.heap[w.heap.size]? = some (.cells #[.string ⟨#[]⟩, .slice none 0 0, .bool false] 81 (0, 0))
  cel : wr.heap[c]? = some (.cells #[.string n, va, .bool em] 81 (0, 0))
  lt : w.heap.size < c
  ltb : b < w.heap.size

theorem TagSt.cl {w wr : World} {b B : Nat} {tx : ByteArray} {c : Nat} {n : ByteArray} {va : Value} {em : Bool} {q : Qs} {vo vt : Value} {op : List ByteArray} {o : Bs} (h : TagSt w wr b B tx c n va em q vo vt op o) : c < wr.heap.size := (Array.getElem?_eq_some_iff.1 h.cel).1
theorem TagSt.go {w wr wr' : World} {b B : Nat} {tx : ByteArray} {c : Nat} {n : ByteArray} {va : Value} {em : Bool} {q q' : Qs} {vo vt vo' vt' : Value} {op op' : List ByteArray} {o o' : Bs} (h : TagSt w wr b B tx c n va em q vo vt op o) (hr : Qd wr' b B tx q' vo' vt' op' o') (ht : Turn (fun x => x = b) wr wr') : TagSt w wr' b B tx c n va em q' vo' vt' op' o' :=
  ⟨hr, h.turn.trans ht, (ht.block _ (by have := h.cl; have := h.lt; omega) (by have := h.ltb; omega)).trans h.res, (ht.block _ h.cl (by have := h.lt; have := h.ltb; omega)).trans h.cel, h.lt, h.ltb⟩
theorem TagSt.setA {w wr : World} {b B : Nat} {tx : ByteArray} {c : Nat} {n : ByteArray} {va : Value} {em : Bool} {q : Qs} {vo vt : Value} {op : List ByteArray} {o : Bs} (h : TagSt w wr b B tx c n va em q vo vt op o) (v : Value) : TagSt w (wr.setCell ⟨c, 1, none⟩ v) b B tx c n v em q vo vt op o := by
  have h1 := h.lt
  have h2 := h.ltb
  exact ⟨h.qd.setOther h.cel (by decide) (by decide) (by omega) _ _, h.turn.setNew (p := ⟨c, 1, none⟩) (by show _ ≤ c; omega) _, (Below.heap_setCell _ _ _ _ (by show w.heap.size ≠ c; omega)).trans h.res, by simp [World.setCell, Array.getElem?_modify, h.cel], h.lt, h.ltb⟩
theorem TagSt.setE {w wr : World} {b B : Nat} {tx : ByteArray} {c : Nat} {n : ByteArray} {va : Value} {em : Bool} {q : Qs} {vo vt : Value} {op : List ByteArray} {o : Bs} (h : TagSt w wr b B tx c n va em q vo vt op o) (v : Bool) : TagSt w (wr.setCell ⟨c, 2, none⟩ (.bool v)) b B tx c n va v q vo vt op o := by
  have h1 := h.lt
  have h2 := h.ltb
  exact ⟨h.qd.setOther h.cel (by decide) (by decide) (by omega) _ _, h.turn.setNew (p := ⟨c, 2, none⟩) (by show _ ≤ c; omega) _, (Below.heap_setCell _ _ _ _ (by show w.heap.size ≠ c; omega)).trans h.res, by simp [World.setCell, Array.getElem?_modify, h.cel], h.lt, h.ltb⟩
theorem TagSt.drew {w wr : World} {b B : Nat} {tx : ByteArray} {c : Nat} {n : ByteArray} {va : Value} {em : Bool} {q : Qs} {vo vt : Value} {op : List ByteArray} {o : Bs} (h : TagSt w wr b B tx c n va em q vo vt op o) : TagSt w wr.drew b B tx c n va em q vo vt op o :=
  h.go h.qd.drew (Turn.refl _ wr).drew

theorem cells3 {W : World} {c : Nat} {x y z : Value} (h : W.heap[c]? = some (.cells #[x, y, z] 81 (0, 0))) : W.cell? ⟨c, 0, none⟩ = some x ∧ W.cell? ⟨c, 1, none⟩ = some y ∧ W.cell? ⟨c, 2, none⟩ = some z ∧ (∀ j, W.frozen? ⟨c, j, none⟩ = false) ∧ c < W.heap.size := by
  refine ⟨?_, ?_, ?_, fun j => ?_, (Array.getElem?_eq_some_iff.1 h).1⟩ <;> simp [World.cell?, World.frozen?, h]

/-- The answer's cells. -/
def tagW (w9 : World) (r : Nat) (n : ByteArray) (va : Value) (em : Bool) : World :=
  ((w9.setCell ⟨r, 0, none⟩ (.string n)).setCell ⟨r, 1, none⟩ va).setCell ⟨r, 2, none⟩ (.bool em)
theorem tagW_other (w9 : World) (r : Nat) (n : ByteArray) (va : Value) (em : Bool) (k : Nat) (h : k ≠ r) : (tagW w9 r n va em).heap[k]? = w9.heap[k]? := by
  unfold tagW
  rw [Below.heap_setCell _ _ _ _ h, Below.heap_setCell _ _ _ _ h, Below.heap_setCell _ _ _ _ h]
theorem TagSt.ret {w w9 : World} {b B : Nat} {tx : ByteArray} {c : Nat} {n : ByteArray} {va : Value} {em : Bool} {q : Qs} {vo vt : Value} {op : List ByteArray} {o : Bs} (h : TagSt w w9 b B tx c n va em q vo vt op o) :
    Qd (tagW w9 w.heap.size n va em) b B tx q vo vt op o ∧ Turn (fun x => x = b) w (tagW w9 w.heap.size n va em) := by
  have h2 := h.ltb
  unfold tagW
  refine ⟨?_, ((h.turn.setNew (p := ⟨w.heap.size, 0, none⟩) (Nat.le_refl _) _).setNew (p := ⟨w.heap.size, 1, none⟩) (Nat.le_refl _) _).setNew (p := ⟨w.heap.size, 2, none⟩) (Nat.le_refl _) _⟩
  have e1 : (w9.setCell ⟨w.heap.size, 0, none⟩ (.string n)).heap[w.heap.size]? = some (.cells #[.string n, .slice none 0 0, .bool false] 81 (0, 0)) := by simp [World.setCell, Array.getElem?_modify, h.res]
  have e2 : ((w9.setCell ⟨w.heap.size, 0, none⟩ (.string n)).setCell ⟨w.heap.size, 1, none⟩ va).heap[w.heap.size]? = some (.cells #[.string n, va, .bool false] 81 (0, 0)) := by rw [World.setCell]; simp [Array.getElem?_modify, e1]
  exact ((h.qd.setOther h.res (by decide) (by decide) (by omega) _ _).setOther e1 (by decide) (by decide) (by omega) _ _).setOther e2 (by decide) (by decide) (by omega) _ _

/-- The reader's measure: how far it is from the end, nothing where something is wrong. -/
def leftQ (tx : ByteArray) (w : World) (b : Nat) : Nat := match w.cell? ⟨b, 3, none⟩ with
  | some (.int _ e) => if e = 0 then tx.size - atOf w b + 1 else 0
  | _ => 0
theorem Qd.left {w : World} {b B : Nat} {tx : ByteArray} {q : Qs} {vo vt : Value} {op : List ByteArray} {o : Bs} (h : Qd w b B tx q vo vt op o) : leftQ tx w b = if q.err = 0 then tx.size - q.at_ + 1 else 0 := by
  unfold leftQ
  rw [h.facts.2.2.2.1, h.atOf]

/-- What 'tag' tells. -/
def TagV (w : World) (r : Bs × List Att × Bool) (e : Ending) (w' : World) : Prop := Dist r.2.1 ∧ r.2.1.length ≤ 32 ∧ ∃ la lcap, e = .returned (.agg #[.string (ba r.1), .slice la r.2.1.length lcap, .bool r.2.2]) ∧ w'.ownsRow w.heap.size 84 2 (.slice la r.2.1.length lcap) r.2.1.length (attrCells r.2.1)

/-- The attributes so far. -/
structure AtsSt (wr : World) (c : Nat) (l : Bs) (tx : ByteArray) (s s2 s' : St) (k : Nat) (acc : List Att) (la : Option Addr) (lcap : Nat) : Prop where
  dist : Dist acc
  len : acc.length ≤ 32
  ok : Ok tx s'
  op : s'.op = s.op
  fuel : tx.size - s'.at_ < k
  go : attrsP l s2 = attrsF l k s' acc
  nil : acc = [] → la = none ∧ lcap = 0
  own : wr.ownsRow (c + 1) 84 2 (.slice la acc.length lcap) acc.length (attrCells (sortA acc))

theorem AtsSt.go' {wr wr' : World} {c b : Nat} {l : Bs} {tx : ByteArray} {s s2 s' : St} {k : Nat} {acc : List Att} {la : Option Addr} {lcap : Nat} (h : AtsSt wr c l tx s s2 s' k acc la lcap) (ht : Turn (fun x => x = b) wr wr') (hb : b < c) : wr'.ownsRow (c + 1) 84 2 (.slice la acc.length lcap) acc.length (attrCells (sortA acc)) :=
  own_row_to h.own ht (fun k hk e => by omega)

/-- What the loop of 'tag' keeps: attributes so far, or something is wrong. -/
def TagRel (w wr : World) (b B : Nat) (tx : ByteArray) (s : St) (op : List ByteArray) (o : Bs) (c : Nat) : Prop :=
  (∃ n s2 s' k acc la lcap vo vt, nameP tx.data.toList s = .inl (n, s2) ∧ TagSt w wr b B tx c (ba n) (.slice la acc.length lcap) false (okQ s' (hasB o)) vo vt op o ∧ AtsSt wr c tx.data.toList tx s s2 s' k acc la lcap) ∨
  (∃ p e n va vn vc q vo vt op1 o1, tagQ tx.data.toList s = .inr (p, e) ∧ TagSt w wr b B tx c n (.slice va vn vc) false q vo vt op1 o1 ∧ e ≠ 0 ∧ q.err = e ∧ q.place = p ∧ q.at_ ≤ tx.size ∧ o1.length ≤ 100000)

theorem blanks_at {tx : ByteArray} {s : St} (ok : Ok tx s) : Ok tx (blanksP tx.data.toList s) ∧ s.at_ ≤ (blanksP tx.data.toList s).at_ ∧ (blanksP tx.data.toList s).op = s.op := by
  have := runN_le (l := tx.data.toList) (p := fun b => blankB b.toNat) (a := s.at_) (by rw [size_list]; exact ok.at_)
  rw [size_list] at this
  refine ⟨⟨ok.len, ?_, ok.nodes, ok.op⟩, ?_, rfl⟩ <;> simp only [blanksP] <;> omega

set_option maxRecDepth 100000 in
set_option maxHeartbeats 4000000 in
theorem qtag_any (w : World) (b B : Nat) (tx : ByteArray) (s : St) (op : List ByteArray) (o : Bs) (h : QS w b B tx s op o) (ok : Ok tx s) (hol : o.length ≤ 16384) (ha : s.at_ < tx.size) (hbeg : beginB (tx[s.at_]'ha).toNat = true) :
    Calls Tryz.prog 49 #[.pointer (some ⟨b, 0, none⟩)] w (fun e w' => QPostA (fun k => k = b) w b B tx tx.size op (tagQ tx.data.toList s) (fun _ => o) (TagV w) e w' ∧ ∃ n va vn vc em, e = .returned (.agg #[.string n, .slice va vn vc, .bool em])) := by
  have HOK : Hid (Ok tx s) := ok
  obtain ⟨k1, k2, k3, k4⟩ := ok
  have hbw : b < w.heap.size := Nat.lt_of_lt_of_le h.2.choose_spec.choose_spec.ltb h.2.choose_spec.choose_spec.leB
  have HOP : Hid (op.length = s.op) := h.1
  have hq0 : QS (w.alloc (.cells #[.string ⟨#[]⟩, .slice none 0 0, .bool false] 81)) b B tx s op o := ⟨h.1, _, _, h.2.choose_spec.choose_spec.below ((Below.refl _ w).alloc (Nat.le_refl _) _)⟩
  have hnm := qname_s _ b B tx s op o hq0 HOK.out hol ha hbeg
  clear h hq0 hbeg
  go_enter Tryz.func49, Tryz.ntmps49
  go_wp2_with fail
  refine hnm.mono ?_
  clear hnm
  rintro e w1 ⟨hp, nx, rfl⟩
  have hz1 : w.heap.size < w1.heap.size := by
    have ht : Turn (fun k => k = b) (w.alloc (.cells #[.string ⟨#[]⟩, .slice none 0 0, .bool false] 81)) w1 := by
      cases hnp : nameP tx.data.toList s with
      | inr q_ => obtain ⟨p, c⟩ := q_; rw [hnp] at hp; exact hp.2.2
      | inl q_ => obtain ⟨n, s2⟩ := q_; rw [hnp] at hp; exact hp.2.2
    exact Nat.lt_of_lt_of_le (by simp) ht.size
  have HREL : Hid (op.length = s.op → TagRel w (w1.alloc (.cells #[.string nx, .slice none 0 0, .bool false] 81)) b B tx s op o w1.heap.size) := by
    intro hop
    have hst : ∀ q vo vt op1 o1, Qd w1 b B tx q vo vt op1 o1 → Turn (fun k => k = b) (w.alloc (.cells #[.string ⟨#[]⟩, .slice none 0 0, .bool false] 81)) w1 → TagSt w (w1.alloc (.cells #[.string nx, .slice none 0 0, .bool false] 81)) b B tx w1.heap.size nx (.slice none 0 0) false q vo vt op1 o1 := by
      intro q vo vt op1 o1 hq ht
      exact ⟨hq.below ((Below.refl _ _).alloc (Nat.le_refl _) _), ht.ofAlloc.alloc _, (Below.heap_alloc _ _ _ hz1).trans ((ht.block w.heap.size (by simp) (by omega)).trans (heap_alloc_new w _)), heap_alloc_new w1 _, hz1, hbw⟩
    cases hnp : nameP tx.data.toList s with
    | inr q_ =>
      obtain ⟨p, c⟩ := q_
      rw [hnp] at hp
      obtain ⟨-, ⟨hc, q, vo1, vt1, op1, o1, hq1, he, hpl, hM, ho1⟩, ht1⟩ := hp
      exact .inr ⟨p, c, nx, none, 0, 0, q, vo1, vt1, op1, o1, by simp only [tagQ, hnp], hst _ _ _ _ _ hq1 ht1, hc, he, hpl, hM, ho1⟩
    | inl q_ =>
      obtain ⟨n, s2⟩ := q_
      rw [hnp] at hp
      obtain ⟨hv, ⟨hop1, vo1, vt1, hq1⟩, ht1⟩ := hp
      obtain rfl : nx = ba n := by cases hv; rfl
      have hok2 := nameOk HOK.out hnp
      exact .inl ⟨n, s2, s2, tx.data.toList.length - s2.at_ + 1, [], none, 0, vo1, vt1, hnp, hst _ _ _ _ _ hq1 ht1, ⟨List.Pairwise.nil, by simp, hok2, by omega, by rw [size_list]; omega, rfl, fun _ => ⟨rfl, rfl⟩, by rw [show sortA [] = [] by simp [sortA]]; exact ⟨rfl, .inl ⟨rfl, rfl⟩⟩⟩⟩
  replace HREL : Hid (TagRel w (w1.alloc (.cells #[.string nx, .slice none 0 0, .bool false] 81)) b B tx s op o w1.heap.size) := HREL.out HOP.out
  clear hp
  go_wp2
  generalize (w1.alloc (.cells #[.string nx, .slice none 0 0, .bool false] 81)) = wa at *
  obtain ⟨c, hc⟩ : ∃ c, c = w1.heap.size := ⟨_, rfl⟩
  rw [← hc] at hz1 HREL ⊢
  clear hc
  go_loopw [] (fun wr => Hid (TagRel w wr b B tx s op o c)) (fun wr => leftQ tx wr b)
  case atStart => exact HREL
  case round =>
    clear HREL
    rcases hrel.out with ⟨n, s2, s', k, acc, la, lcap, vo, vt, hnp, hst, hats⟩ | ⟨p, e, n, va, vn, vc, q, vo, vt, op1, o1, hg, hst, hc0, he, hpl, hM, ho1⟩
    · have HST : Hid (TagSt w wr b B tx c (ba n) (.slice la acc.length lcap) false (okQ s' (hasB o)) vo vt op o) := hst
      have HAT : Hid (AtsSt wr c tx.data.toList tx s s2 s' k acc la lcap) := hats
      have HNP : Hid (nameP tx.data.toList s = .inl (n, s2)) := hnp
      have HOK' : Hid (Ok tx s') := hats.ok
      have HOPs : Hid (op.length = s'.op) := HOP.out.trans hats.op.symm
      obtain ⟨k, rfl⟩ : ∃ j, k = j + 1 := ⟨k - 1, by have := hats.fuel; omega⟩
      have hbl := qblanks_any wr b B tx s' op o ⟨HOPs.out, vo, vt, hst.qd⟩ HOK'.out
      obtain ⟨hokb, hleb, hopb⟩ := blanks_at HOK'.out
      have HLEFT : Hid (leftQ tx wr b = tx.size - s'.at_ + 1) := by show _ = _; rw [hst.qd.left]; rfl
      have HFUEL : Hid (tx.size - s'.at_ < k + 1) := hats.fuel
      have HGO : Hid (attrsP tx.data.toList s2 = match tx.data.toList[(blanksP tx.data.toList s').at_]? with
        | none => .inr ((blanksP tx.data.toList s').at_, 4)
        | some b => if b = 47 ∨ b = 62 then .inl ((sortA acc), (blanksP tx.data.toList s')) else if (blanksP tx.data.toList s').at_ = s'.at_ then .inr (s'.at_, 3) else match attrP tx.data.toList acc (blanksP tx.data.toList s') with
          | .inr (p, e) => .inr (p, e)
          | .inl (a, s1) => attrsF tx.data.toList k s1 (acc ++ [a])) := by
        show _ = _
        rw [hats.go]
        simp only [attrsF]
        cases tx.data.toList[(blanksP tx.data.toList s').at_]? with
        | none => rfl
        | some b => simp only; cases attrP tx.data.toList acc (blanksP tx.data.toList s') <;> rfl
      clear hnp hats hst hrel
      generalize blanksP tx.data.toList s' = s3 at *
      have HOK3 : Hid (Ok tx s3) := hokb
      have HOP3 : Hid (op.length = s3.op) := HOPs.out.trans hopb.symm
      obtain ⟨j1, j2, j3, j4⟩ := hokb
      have hcb : c ≠ b := by omega
      have hbc : b ≠ c := by omega
      have hne : w.heap.size ≠ c := by omega
      have hne' : c ≠ w.heap.size := by omega
      have hwb : w.heap.size ≠ b := by omega
      have hbw' : b ≠ w.heap.size := by omega
      clear hopb
      go_wp2_with fail
      refine (qokT HST.out.qd).mono ?_
      rintro e w8 ⟨rfl, hw8⟩
      obtain rfl := hw8.symm
      go_wp2_with fail
      refine hbl.mono ?_
      clear hbl
      rintro e w2 ⟨rfl, ⟨-, vo2, vt2, hq2⟩, ht2⟩
      have HS2 : Hid (TagSt w w2 b B tx c (ba n) (.slice la acc.length lcap) false (okQ s3 (hasB o)) vo2 vt2 op o) := HST.out.go hq2 ht2
      have HO2 : Hid (w2.ownsRow (c + 1) 84 2 (.slice la acc.length lcap) acc.length (attrCells (sortA acc))) := HAT.out.go' ht2 (by omega)
      obtain ⟨gap, hgap⟩ : ∃ g, g = decide (s'.at_ < s3.at_) := ⟨_, rfl⟩
      rw [← hgap]
      have HGAP : Hid (gap = decide (s'.at_ < s3.at_)) := hgap
      have e3 : (okQ s3 (hasB o)).at_ = s3.at_ := rfl
      have HDI : Hid (Dist acc ∧ acc.length ≤ 32 ∧ (acc = [] → la = none ∧ lcap = 0)) := ⟨HAT.out.dist, HAT.out.len, HAT.out.nil⟩
      have HOPE : Hid (s3.op = s.op) := HOP3.out.symm.trans HOP.out
      clear hq2 ht2 HST HAT hgap
      have hbad := fun (W : World) (hq : Qd W b B tx (okQ s3 (hasB o)) vo2 vt2 op o) (e : Int) => qbad_any W b B tx _ vo2 vt2 op o hq s3.at_ e
      have HBQ : Hid (∀ e, badQ (okQ s3 (hasB o)) s3.at_ e = { okQ s3 (hasB o) with place := s3.at_, err := e }) := fun e => by simp [badQ, okQ]
      obtain ⟨h0, h1, h2, h3, h4, h5, h6, h7, fz, hb⟩ := HS2.out.qd.facts
      rw [e3] at h1
      by_cases hat : s3.at_ < tx.size
      · have t1 : ((s3.at_ : Int) == (tx.size : Int)) = false := by simp; omega
        have ge := get_some hat
        go_wp2
        go_region
        have HS3 : Hid (TagSt w w2.drew b B tx c (ba n) (.slice la acc.length lcap) false (okQ s3 (hasB o)) vo2 vt2 op o) := HS2.out.drew
        have HO3 : Hid (w2.drew.ownsRow (c + 1) 84 2 (.slice la acc.length lcap) acc.length (attrCells (sortA acc))) := HO2.out
        clear h0 h1 h2 h3 h4 h5 h6 h7 fz hb HS2 HO2
        generalize w2.drew = w3 at *
        obtain ⟨h0, h1, h2, h3, h4, h5, h6, h7, fz, hb⟩ := HS3.out.qd.facts
        rw [e3] at h1
        go_wp2
        go_region
        have HS4 : Hid (TagSt w w3.drew b B tx c (ba n) (.slice la acc.length lcap) false (okQ s3 (hasB o)) vo2 vt2 op o) := HS3.out.drew
        have HO4 : Hid (w3.drew.ownsRow (c + 1) 84 2 (.slice la acc.length lcap) acc.length (attrCells (sortA acc))) := HO3.out
        clear h0 h1 h2 h3 h4 h5 h6 h7 fz hb HS3 HO3
        generalize w3.drew = w4 at *
        obtain ⟨h0, h1, h2, h3, h4, h5, h6, h7, fz, hb⟩ := HS4.out.qd.facts
        rw [e3] at h1
        by_cases hc6 : tx[s3.at_]'hat = 62
        · have t2 : (((tx[s3.at_]'hat).toNat : Int) == 62) = true := by rw [hc6]; rfl
          have HG : Hid (tagQ tx.data.toList s = .inl ((n, sortA acc, false), { s3 with at_ := s3.at_ + 1 })) := by
            show _ = _
            have hx : expectP tx.data.toList 62 s3 = .inl ((), { s3 with at_ := s3.at_ + 1 }) := by simp [expectP, ge, hc6]
            simp only [tagQ, HNP.out, HGO.out, ge, hc6, or_true, if_true, hx]
            rw [if_neg (by decide)]
          clear hc6 ge
          have HS5 : Hid (TagSt w (w4.setCell ⟨b, 1, none⟩ (.int .i64 ((s3.at_ : Int) + 1))) b B tx c (ba n) (.slice la acc.length lcap) false (okQ { s3 with at_ := s3.at_ + 1 } (hasB o)) vo2 vt2 op o) := HS4.out.go (HS4.out.qd.setAt _ (by simp)) (turn_set (Turn.refl _ _) _ _)
          have HO5 : Hid ((w4.setCell ⟨b, 1, none⟩ (.int .i64 ((s3.at_ : Int) + 1))).ownsRow (c + 1) 84 2 (.slice la acc.length lcap) acc.length (attrCells (sortA acc))) := own_row_to HO4.out (turn_set (Turn.refl _ w4) 1 _) (fun k hk e => by omega)
          obtain ⟨c0, c1, c2, cf, ccl⟩ := cells3 HS4.out.cel
          obtain ⟨r0, r1, r2, rf, rcl⟩ := cells3 HS4.out.res
          have KEY : Hid _ := HS5.out.ret
          have KO : Hid ((tagW (w4.setCell ⟨b, 1, none⟩ (.int .i64 ((s3.at_ : Int) + 1))) w.heap.size (ba n) (.slice la acc.length lcap) false).ownsRow w.heap.size 84 2 (.slice la acc.length lcap) acc.length (attrCells (sortA acc))) := own_base (own_of_block HO5.out (fun k hk => tagW_other _ _ _ _ _ _ (by have := (own_block_lt HO5.out k hk).1; omega))) (fun k hk => by have := (own_block_lt HO5.out k hk).1; omega)
          go_wp2
          exact bodyPost_ret (v := .agg #[.string (ba n), .slice la acc.length lcap, .bool false]) (by simp [results, Tryz.results49, go_sem, r0, r1, r2]) rfl ⟨QPostA.yes HG.out (by
            have hl : (sortA acc).length = acc.length := (sortA_perm acc).length_eq
            refine ⟨HDI.out.1.perm (sortA_perm acc).symm, by rw [hl]; exact HDI.out.2.1, la, lcap, by rw [hl], ?_⟩
            simp only [hl]
            exact KO.out) ⟨HOP3.out, vo2, vt2, KEY.out.1⟩ KEY.out.2, _, _, _, _, _, rfl⟩
        · have t2 : (((tx[s3.at_]'hat).toNat : Int) == 62) = false := by
            rw [beq_eq_false_iff_ne]; intro e; exact hc6 (UInt8.toNat_inj.1 (by show _ = 62; omega))
          go_wp2
          go_region
          have HS5 : Hid (TagSt w w4.drew b B tx c (ba n) (.slice la acc.length lcap) false (okQ s3 (hasB o)) vo2 vt2 op o) := HS4.out.drew
          have HO5 : Hid (w4.drew.ownsRow (c + 1) 84 2 (.slice la acc.length lcap) acc.length (attrCells (sortA acc))) := HO4.out
          clear h0 h1 h2 h3 h4 h5 h6 h7 fz hb HS4 HO4
          generalize w4.drew = w5 at *
          obtain ⟨h0, h1, h2, h3, h4, h5, h6, h7, fz, hb⟩ := HS5.out.qd.facts
          rw [e3] at h1
          by_cases hc4 : tx[s3.at_]'hat = 47
          · have t3 : (((tx[s3.at_]'hat).toNat : Int) == 47) = true := by rw [hc4]; rfl
            have HV : Hid (tagQ tx.data.toList s = match expectP tx.data.toList 62 { s3 with at_ := s3.at_ + 1 } with
                | .inr (p, e) => .inr (p, e)
                | .inl (_, s4) => .inl ((n, sortA acc, true), s4)) := by
              show _ = _
              simp only [tagQ, HNP.out, HGO.out, ge, hc4, true_or, if_true]
            clear hc4 ge hc6
            have HS6 : Hid (TagSt w (w5.setCell ⟨b, 1, none⟩ (.int .i64 ((s3.at_ : Int) + 1))) b B tx c (ba n) (.slice la acc.length lcap) false (okQ { s3 with at_ := s3.at_ + 1 } (hasB o)) vo2 vt2 op o) := HS5.out.go (HS5.out.qd.setAt _ (by simp)) (turn_set (Turn.refl _ _) _ _)
            have HO6 : Hid ((w5.setCell ⟨b, 1, none⟩ (.int .i64 ((s3.at_ : Int) + 1))).ownsRow (c + 1) 84 2 (.slice la acc.length lcap) acc.length (attrCells (sortA acc))) := own_row_to HO5.out (turn_set (Turn.refl _ w5) 1 _) (fun k hk e => by omega)
            have hmu := qmust_b _ b B tx { s3 with at_ := s3.at_ + 1 } op o ⟨HOP3.out, vo2, vt2, HS6.out.qd⟩ ⟨k1, by simp only; omega, j3, j4⟩ hol 62
            clear HS5 HO5
            go_wp2_with fail
            refine hmu.mono ?_
            clear hmu h0 h1 h2 h3 h4 h5 h6 h7 fz hb
            intro e w7 hp
            cases hxp : expectP tx.data.toList 62 { s3 with at_ := s3.at_ + 1 } with
            | inr q_ =>
              obtain ⟨p, ec⟩ := q_
              rw [hxp] at hp
              obtain ⟨⟨v, rfl⟩, ⟨hc0, q, vo1, vt1, op1, o1, hq1, he, hpl, hM, ho1⟩, ht7⟩ := hp
              have HG : Hid (tagQ tx.data.toList s = .inr (p, ec)) := by show _ = _; rw [HV.out, hxp]
              have HS7 : Hid (TagSt w w7 b B tx c (ba n) (.slice la acc.length lcap) false q vo1 vt1 op1 o1) := HS6.out.go hq1 ht7
              have HS8 : Hid (TagSt w (w7.setCell ⟨c, 2, none⟩ (.bool true)) b B tx c (ba n) (.slice la acc.length lcap) true q vo1 vt1 op1 o1) := HS7.out.setE true
              have HR9 : Hid (ec ≠ 0 ∧ q.err = ec ∧ q.place = p ∧ q.at_ ≤ tx.size ∧ o1.length ≤ 100000) := ⟨hc0, he, hpl, hM, ho1⟩
              clear hxp hc0 he hpl hM ho1 hq1 ht7
              obtain ⟨c0, c1, c2, cf, ccl⟩ := cells3 HS7.out.cel
              obtain ⟨r0, r1, r2, rf, rcl⟩ := cells3 HS7.out.res
              have KEY : Hid _ := HS8.out.ret
              go_wp2
              obtain ⟨hc0, he, hpl, hM, ho1⟩ := HR9.out
              exact bodyPost_ret (v := .agg #[.string (ba n), .slice la acc.length lcap, .bool true]) (by simp [results, Tryz.results49, go_sem, r0, r1, r2]) rfl ⟨QPostA.no HG.out ⟨hc0, q, vo1, vt1, op1, o1, KEY.out.1, he, hpl, hM, ho1⟩ KEY.out.2, _, _, _, _, _, rfl⟩
            | inl q_ =>
              obtain ⟨u9, s4⟩ := q_
              rw [hxp] at hp
              obtain ⟨rfl, ⟨hop4, vo1, vt1, hq1⟩, ht7⟩ := hp
              have HG : Hid (tagQ tx.data.toList s = .inl ((n, sortA acc, true), s4)) := by show _ = _; rw [HV.out, hxp]
              have HS7 : Hid (TagSt w w7 b B tx c (ba n) (.slice la acc.length lcap) false (okQ s4 (hasB o)) vo1 vt1 op o) := HS6.out.go hq1 ht7
              have HS8 : Hid (TagSt w (w7.setCell ⟨c, 2, none⟩ (.bool true)) b B tx c (ba n) (.slice la acc.length lcap) true (okQ s4 (hasB o)) vo1 vt1 op o) := HS7.out.setE true
              have HO7 : Hid (w7.ownsRow (c + 1) 84 2 (.slice la acc.length lcap) acc.length (attrCells (sortA acc))) := own_row_to HO6.out ht7 (fun k hk e => by omega)
              have HOP4 : Hid (op.length = s4.op) := hop4
              clear hxp hq1 ht7 hop4
              obtain ⟨c0, c1, c2, cf, ccl⟩ := cells3 HS7.out.cel
              obtain ⟨r0, r1, r2, rf, rcl⟩ := cells3 HS7.out.res
              have KEY : Hid _ := HS8.out.ret
              have KO : Hid ((tagW (w7.setCell ⟨c, 2, none⟩ (.bool true)) w.heap.size (ba n) (.slice la acc.length lcap) true).ownsRow w.heap.size 84 2 (.slice la acc.length lcap) acc.length (attrCells (sortA acc))) := own_base (own_of_block HO7.out (fun k hk => (tagW_other _ _ _ _ _ _ (by have := (own_block_lt HO7.out k hk).1; omega)).trans (Below.heap_setCell _ _ _ _ (by have := (own_block_lt HO7.out k hk).1; show k ≠ c; omega)))) (fun k hk => by have := (own_block_lt HO7.out k hk).1; omega)
              go_wp2
              exact bodyPost_ret (v := .agg #[.string (ba n), .slice la acc.length lcap, .bool true]) (by simp [results, Tryz.results49, go_sem, r0, r1, r2]) rfl ⟨QPostA.yes HG.out (by
                have hl : (sortA acc).length = acc.length := (sortA_perm acc).length_eq
                refine ⟨HDI.out.1.perm (sortA_perm acc).symm, by rw [hl]; exact HDI.out.2.1, la, lcap, by rw [hl], ?_⟩
                simp only [hl]
                exact KO.out) ⟨HOP4.out, vo1, vt1, KEY.out.1⟩ KEY.out.2, _, _, _, _, _, rfl⟩
          · have t3 : (((tx[s3.at_]'hat).toNat : Int) == 47) = false := by
              rw [beq_eq_false_iff_ne]; intro e; exact hc4 (UInt8.toNat_inj.1 (by show _ = 47; omega))
            have HV : Hid (attrsP tx.data.toList s2 = if s3.at_ = s'.at_ then .inr (s'.at_, 3) else match attrP tx.data.toList acc s3 with
                | .inr (p, e) => .inr (p, e)
                | .inl (a, s1) => attrsF tx.data.toList k s1 (acc ++ [a])) := by
              show _ = _
              simp only [HGO.out, ge, hc4, hc6, or_self, if_false]
            have HNB : Hid (beginB (tx[s3.at_]'hat).toNat = false → nameP tx.data.toList s3 = .inr (s3.at_, 3)) := fun hb => by simp [nameP, ge, hb]
            clear hc4 hc6 HGO
            cases gap with
            | false =>
              have HG : Hid (tagQ tx.data.toList s = .inr (s3.at_, 3)) := by
                show _ = _
                have h9 := HGAP.out
                have h8 : s3.at_ = s'.at_ := by
                  have : ¬ s'.at_ < s3.at_ := fun hh => by rw [decide_eq_true hh] at h9; cases h9
                  omega
                simp only [tagQ, HNP.out, HV.out, h8, if_true]
              clear ge
              go_wp2
              refine wp_region_bel (by kernel_rfl) (by kernel_rfl) ?_
              intro hnex
              repeat go_big_quiet_step (fail)
              refine wpQuiet_nil ?_
              rintro _ ⟨u, rfl⟩
              have HS6 : Hid (TagSt w u.w b B tx c (ba n) (.slice la acc.length lcap) false (okQ s3 (hasB o)) vo2 vt2 op o) := HS5.out.go (HS5.out.qd.below u.h) (turn_below _ u.h (Nat.le_refl _))
              clear h0 h1 h2 h3 h4 h5 h6 h7 fz hb HS5 HO5
              generalize u.w = w6 at *
              obtain ⟨h0, h1, h2, h3, h4, h5, h6, h7, fz, hb⟩ := HS6.out.qd.facts
              rw [e3] at h1
              go_wp2_with fail
              refine (hbad _ HS6.out.qd 3).mono ?_
              rintro e w7 ⟨rfl, hq7, ht7⟩
              rw [HBQ.out] at hq7
              have HS7 : Hid (TagSt w w7 b B tx c (ba n) (.slice la acc.length lcap) false { okQ s3 (hasB o) with place := s3.at_, err := 3 } vo2 vt2 op o) := HS6.out.go hq7 ht7
              clear hq7 ht7 hbad h0 h1 h2 h3 h4 h5 h6 h7 fz hb
              go_wp2
              refine ⟨.inr ⟨s3.at_, 3, ba n, la, acc.length, lcap, _, vo2, vt2, op, o, HG.out, HS7.out, by decide, rfl, rfl, by simp only [okQ]; omega, by omega⟩, ?_⟩
              rw [HS7.out.qd.left, HLEFT.out, if_neg (by simp)]
              omega
            | true =>
              have hgne : ¬ s3.at_ = s'.at_ := by
                have h9 := HGAP.out
                have := of_decide_eq_true h9.symm
                omega
              have hbe := fun W => begins_any W (tx[s3.at_]'hat).toNat (UInt8.toNat_lt _)
              cases hbb : beginB (tx[s3.at_]'hat).toNat with
              | false =>
                rw [hbb] at hbe
                have HG : Hid (tagQ tx.data.toList s = .inr (s3.at_, 3)) := by
                  show _ = _
                  have h9 : attrP tx.data.toList acc s3 = .inr (s3.at_, 3) := by simp only [attrP, HNB.out hbb]
                  simp only [tagQ, HNP.out, HV.out, hgne, if_false, h9]
                clear ge hgne hbb
                go_wp2
                refine wp_region_bel (by kernel_rfl) (by kernel_rfl) ?_
                intro hnex
                repeat go_big_quiet_step ((go_at_call 77; exact Calls.bel_of_same (hbe _)))
                refine wpQuiet_nil ?_
                rintro _ ⟨u, rfl⟩
                have HS6 : Hid (TagSt w u.w b B tx c (ba n) (.slice la acc.length lcap) false (okQ s3 (hasB o)) vo2 vt2 op o) := HS5.out.go (HS5.out.qd.below u.h) (turn_below _ u.h (Nat.le_refl _))
                clear h0 h1 h2 h3 h4 h5 h6 h7 fz hb HS5 HO5
                generalize u.w = w6 at *
                obtain ⟨h0, h1, h2, h3, h4, h5, h6, h7, fz, hb⟩ := HS6.out.qd.facts
                rw [e3] at h1
                go_wp2_with fail
                refine (hbad _ HS6.out.qd 3).mono ?_
                rintro e w7 ⟨rfl, hq7, ht7⟩
                rw [HBQ.out] at hq7
                have HS7 : Hid (TagSt w w7 b B tx c (ba n) (.slice la acc.length lcap) false { okQ s3 (hasB o) with place := s3.at_, err := 3 } vo2 vt2 op o) := HS6.out.go hq7 ht7
                clear hq7 ht7 hbad h0 h1 h2 h3 h4 h5 h6 h7 fz hb
                go_wp2
                refine ⟨.inr ⟨s3.at_, 3, ba n, la, acc.length, lcap, _, vo2, vt2, op, o, HG.out, HS7.out, by decide, rfl, rfl, by simp only [okQ]; omega, by omega⟩, ?_⟩
                rw [HS7.out.qd.left, HLEFT.out, if_neg (by simp)]
                omega
              | true =>
                rw [hbb] at hbe
                have HVA : Hid (attrsP tx.data.toList s2 = match attrP tx.data.toList acc s3 with
                    | .inr (p, e) => .inr (p, e)
                    | .inl (a, s1) => attrsF tx.data.toList k s1 (acc ++ [a])) := by
                  show _ = _
                  rw [HV.out, if_neg hgne]
                have hbeg3 : beginB (tx[s3.at_]'hat).toNat = true := hbb
                have HAS : Hid (s'.at_ < s3.at_) := (of_decide_eq_true HGAP.out.symm : s'.at_ < s3.at_)
                clear ge hgne hbb HV HNB
                go_wp2
                refine wp_region_bel (by kernel_rfl) (by kernel_rfl) ?_
                intro hnex
                repeat go_big_quiet_step ((go_at_call 77; exact Calls.bel_of_same (hbe _)))
                refine wpQuiet_nil ?_
                rintro _ ⟨u, rfl⟩
                have HS6 : Hid (TagSt w u.w b B tx c (ba n) (.slice la acc.length lcap) false (okQ s3 (hasB o)) vo2 vt2 op o) := HS5.out.go (HS5.out.qd.below u.h) (turn_below _ u.h (Nat.le_refl _))
                have HO6 : Hid (u.w.ownsRow (c + 1) 84 2 (.slice la acc.length lcap) acc.length (attrCells (sortA acc))) := owns_below HO5.out u.h
                clear h0 h1 h2 h3 h4 h5 h6 h7 fz hb HS5 HO5 hbe
                generalize u.w = w6 at *
                obtain ⟨c0, c1, c2, cf, ccl⟩ := cells3 HS6.out.cel
                obtain ⟨hAR, hAL, hAC⟩ := attrs_row HO6.out rfl
                have hsl : (sortA acc).length = acc.length := (sortA_perm acc).length_eq
                have hatr := qattr_any w6 b B tx s3 op o ⟨HOP3.out, vo2, vt2, HS6.out.qd⟩ HOK3.out hol hat hbeg3 _ la lcap acc (sortA acc) hAR rfl HDI.out.1 (fun k hk => ⟨hk.2.2, by have := hk.2.1; omega⟩) (by rw [hsl]; exact HDI.out.2.1) (by rw [hsl]; exact hAC) (fun e => HDI.out.2.2 (by rw [← List.length_eq_zero_iff, ← hsl, e]; rfl))
                rw [hsl] at hatr
                clear hAR hAL hAC hsl hbeg3
                go_wp2_with fail
                refine hatr.mono ?_
                clear hatr c0 c1 c2 cf ccl
                rintro e w7 ⟨hp, sa, sn, sc, rfl⟩
                cases hap : attrP tx.data.toList acc s3 with
                | inr q_ =>
                  obtain ⟨p, ec⟩ := q_
                  rw [hap] at hp
                  obtain ⟨-, ⟨hc0, q, vo1, vt1, op1, o1, hq1, he, hpl, hM, ho1⟩, ht7⟩ := hp
                  have HG : Hid (tagQ tx.data.toList s = .inr (p, ec)) := by
                    show _ = _
                    simp only [tagQ, HNP.out, HVA.out, hap]
                  have HS7 : Hid (TagSt w w7 b B tx c (ba n) (.slice la acc.length lcap) false q vo1 vt1 op1 o1) := HS6.out.go hq1 ht7
                  have HS8 : Hid (TagSt w (w7.setCell ⟨c, 1, none⟩ (.slice sa sn sc)) b B tx c (ba n) (.slice sa sn sc) false q vo1 vt1 op1 o1) := HS7.out.setA _
                  have HR9 : Hid (ec ≠ 0 ∧ q.err = ec ∧ q.place = p ∧ q.at_ ≤ tx.size ∧ o1.length ≤ 100000) := ⟨hc0, he, hpl, hM, ho1⟩
                  clear hap hc0 he hpl hM ho1 hq1 ht7
                  obtain ⟨c0, c1, c2, cf, ccl⟩ := cells3 HS7.out.cel
                  go_wp2
                  obtain ⟨hc0, he, hpl, hM, ho1⟩ := HR9.out
                  refine ⟨.inr ⟨p, ec, ba n, sa, sn, sc, q, vo1, vt1, op1, o1, HG.out, HS8.out, hc0, he, hpl, hM, ho1⟩, ?_⟩
                  rw [HS8.out.qd.left, HLEFT.out, if_neg (by rw [he]; exact hc0)]
                  omega
                | inl q_ =>
                  obtain ⟨a, s4⟩ := q_
                  rw [hap] at hp
                  obtain ⟨⟨hD4, ma, mcap, hv4, hown4⟩, ⟨hop4, vo1, vt1, hq1⟩, ht7⟩ := hp
                  obtain ⟨rfl, rfl, rfl⟩ : sa = ma ∧ sn = acc.length + 1 ∧ sc = mcap := by cases hv4; exact ⟨rfl, rfl, rfl⟩
                  obtain ⟨g1, g2, g3, g4, g5⟩ := attrP_ok hap HDI.out.2.1
                  rw [size_list] at g2
                  have HS7 : Hid (TagSt w w7 b B tx c (ba n) (.slice la acc.length lcap) false (okQ s4 (hasB o)) vo1 vt1 op o) := HS6.out.go hq1 ht7
                  have HS8 : Hid (TagSt w (w7.setCell ⟨c, 1, none⟩ (.slice sa (acc.length + 1) sc)) b B tx c (ba n) (.slice sa (acc.length + 1) sc) false (okQ s4 (hasB o)) vo1 vt1 op o) := HS7.out.setA _
                  have hc6l := HS6.out.cl
                  have HO8 : Hid ((w7.setCell ⟨c, 1, none⟩ (.slice sa (acc.length + 1) sc)).ownsRow (c + 1) 84 2 (.slice sa (acc.length + 1) sc) (acc.length + 1) (attrCells (sortA (acc ++ [a])))) := own_base (own_of_block hown4 (fun k hk => Below.heap_setCell _ _ _ _ (by have := (own_block_lt hown4 k hk).1; show k ≠ c; omega))) (fun k hk => by have := (own_block_lt hown4 k hk).1; omega)
                  have HD4 : Hid (Dist (acc ++ [a])) := hD4
                  have HX : Hid (Ok tx s4 ∧ s4.op = s.op ∧ s3.at_ < s4.at_ ∧ (acc ++ [a]).length ≤ 32) := ⟨⟨k1, g2, by rw [g3]; exact j3, by rw [g4]; exact j4⟩, g4.trans HOPE.out, g1, by have := g5.1; simp; omega⟩
                  have HGO4 : Hid (attrsP tx.data.toList s2 = attrsF tx.data.toList k s4 (acc ++ [a])) := by show _ = _; rw [HVA.out, hap]
                  clear hap hq1 ht7 hD4 hown4 hv4 g1 g2 g3 g4 g5 hop4
                  obtain ⟨c0, c1, c2, cf, ccl⟩ := cells3 HS7.out.cel
                  go_wp2
                  obtain ⟨x1, x2, x3, x4⟩ := HX.out
                  have hla : (acc ++ [a]).length = acc.length + 1 := by simp
                  refine ⟨.inl ⟨n, s2, s4, k, acc ++ [a], sa, sc, vo1, vt1, HNP.out, by rw [hla]; exact HS8.out, ⟨HD4.out, x4, x1, x2, ?_, HGO4.out, fun e => by simp at e, by rw [hla]; exact HO8.out⟩⟩, ?_⟩
                  · have := HFUEL.out; have := HAS.out; omega
                  · rw [HS8.out.qd.left, HLEFT.out]
                    have := HAS.out
                    simp only [okQ, if_true]
                    omega
      · have t1 : ((s3.at_ : Int) == (tx.size : Int)) = true := by simp; omega
        have HG : Hid (tagQ tx.data.toList s = .inr (s3.at_, 4)) := by
          show _ = _
          simp only [tagQ, HNP.out, HGO.out, get_no (Nat.le_of_not_lt hat)]
        go_wp2
        go_region
        have HS6 : Hid (TagSt w w2.drew b B tx c (ba n) (.slice la acc.length lcap) false (okQ s3 (hasB o)) vo2 vt2 op o) := HS2.out.drew
        clear h0 h1 h2 h3 h4 h5 h6 h7 fz hb HS2 HO2 HGO
        generalize w2.drew = w6 at *
        obtain ⟨h0, h1, h2, h3, h4, h5, h6, h7, fz, hb⟩ := HS6.out.qd.facts
        rw [e3] at h1
        go_wp2_with fail
        refine (hbad _ HS6.out.qd 4).mono ?_
        rintro e w7 ⟨rfl, hq7, ht7⟩
        rw [HBQ.out] at hq7
        have HS7 : Hid (TagSt w w7 b B tx c (ba n) (.slice la acc.length lcap) false { okQ s3 (hasB o) with place := s3.at_, err := 4 } vo2 vt2 op o) := HS6.out.go hq7 ht7
        clear hq7 ht7 hbad h0 h1 h2 h3 h4 h5 h6 h7 fz hb
        go_wp2
        refine ⟨.inr ⟨s3.at_, 4, ba n, la, acc.length, lcap, _, vo2, vt2, op, o, HG.out, HS7.out, by decide, rfl, rfl, by simp only [okQ]; omega, by omega⟩, ?_⟩
        rw [HS7.out.qd.left, HLEFT.out, if_neg (by simp)]
        omega
    · have HST : Hid (TagSt w wr b B tx c n (.slice va vn vc) false q vo vt op1 o1) := hst
      have HR9 : Hid (e ≠ 0 ∧ q.err = e ∧ q.place = p ∧ q.at_ ≤ tx.size ∧ o1.length ≤ 100000) := ⟨hc0, he, hpl, hM, ho1⟩
      have t9 : (q.err == 0) = false := by rw [he]; exact beq_eq_false_iff_ne.2 hc0
      have HG : Hid (tagQ tx.data.toList s = .inr (p, e)) := hg
      clear hg hst hc0 he hpl hM ho1 hrel
      obtain ⟨c0, c1, c2, cf, ccl⟩ := cells3 HST.out.cel
      obtain ⟨r0, r1, r2, rf, rcl⟩ := cells3 HST.out.res
      have hne : w.heap.size ≠ c := by omega
      have hne' : c ≠ w.heap.size := by omega
      have KEY : Hid _ := HST.out.ret
      go_wp2_with fail
      refine (qok_any wr b B tx q vo vt op1 o1 HST.out.qd).mono ?_
      rintro e9 w8 ⟨rfl, hw8⟩
      obtain rfl := hw8.symm
      go_wp2
      obtain ⟨hc0, he, hpl, hM, ho1⟩ := HR9.out
      exact bodyPost_ret (v := .agg #[.string n, .slice va vn vc, .bool false]) (by simp [results, Tryz.results49, go_sem, r0, r1, r2]) rfl ⟨QPostA.no HG.out ⟨hc0, q, vo, vt, op1, o1, KEY.out.1, he, hpl, hM, ho1⟩ KEY.out.2, _, _, _, _, _, rfl⟩

end Go.Proofs.YtmifejkddgcbmabGreat
