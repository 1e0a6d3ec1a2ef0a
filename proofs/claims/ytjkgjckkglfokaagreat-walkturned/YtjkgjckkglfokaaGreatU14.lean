/- Attributes by their names: their order, and where one stands (findAttr). -/
import Derived.Test.YtjkgjckkglfokaaGreatU01
import Derived.Test.YtjkgjckkglfokaaGreatU13
import Derived.Test.YtjkgjckkglfokaaGreatU11
import Derived.Lib.Bytealg
import Derived.Shelf.Abstract
import Derived.Test.YtjkgjckkglfokaaGreatU09
namespace Go.Proofs.YtjkgjckkglfokaaGreat.Gr
open Go.RowKit
set_option linter.unusedVariables false
set_option linter.unusedSimpArgs false
set_option maxRecDepth 100000
set_option maxHeartbeats 2000000
def ltN (a b : ByteArray) : Prop := a.data.toList < b.data.toList
instance (a b : ByteArray) : Decidable (ltN a b) := by unfold ltN; infer_instance
theorem bl_eq : ∀ (x y : List UInt8), Op.bytesLess x y = decide (x < y)
 | [], [] => by simp [Op.bytesLess]
 | _ :: _, [] => by simp [Op.bytesLess]
 | [], _ :: _ => by simp [Op.bytesLess]
 | a :: x, b :: y => by
  rw [Op.bytesLess, bl_eq x y]
  simp only [List.cons_lt_cons_iff]
  by_cases h1 : a < b <;> by_cases h2 : a = b <;> by_cases h3 : x < y <;> simp [h1, h2, h3]
theorem less_ltN (a b : ByteArray) : Op.bytesLess a.toList b.toList = decide (ltN a b) := by
 rw [bl_eq, ByteArray.toList_eq, ByteArray.toList_eq]
 rfl
theorem ltN_irr (a : ByteArray) : ¬ ltN a a := List.lt_irrefl _
theorem ltN_trans {a b c : ByteArray} (h : ltN a b) (k : ltN b c) : ltN a c := List.lt_trans h k
theorem ltN_tri (a b : ByteArray) : ltN a b \/ a = b \/ ltN b a := by
 unfold ltN
 by_cases h1 : a.data.toList < b.data.toList
 ·exact .inl h1
 ·by_cases h2 : b.data.toList < a.data.toList
  ·exact .inr (.inr h2)
  ·refine .inr (.inl ?_)
   have := List.le_antisymm (List.not_lt.1 h2) (List.not_lt.1 h1)
   obtain ⟨⟨l⟩⟩ := a
   obtain ⟨⟨m⟩⟩ := b
   simp at this
   rw [this]
theorem cmpB : ∀ (x y : List UInt8), (Lib.compareBytes x y < 0 ↔ x < y) /\ (Lib.compareBytes x y = 0 ↔ x = y)
 | [], [] => by simp [Lib.compareBytes]
 | _ :: _, [] => by simp [Lib.compareBytes]
 | [], _ :: _ => by simp [Lib.compareBytes]
 | a :: x, b :: y => by
  obtain ⟨i1, i2⟩ := cmpB x y
  unfold Lib.compareBytes
  by_cases h1 : a < b
  ·rw [if_pos h1]
   refine ⟨⟨fun _ => by simp [List.cons_lt_cons_iff, h1], fun _ => by decide⟩, ⟨(fun h => by cases h), fun h => ?_⟩⟩
   simp only [List.cons.injEq] at h
   rw [h.1] at h1
   exact absurd h1 (UInt8.lt_irrefl _)
  ·rw [if_neg h1]
   by_cases h2 : b < a
   ·rw [if_pos h2]
    refine ⟨⟨(fun h => by cases h), fun h => ?_⟩, ⟨(fun h => by cases h), fun h => ?_⟩⟩
    ·simp only [List.cons_lt_cons_iff] at h
     rcases h with h | ⟨h, _⟩
     ·exact absurd h h1
     ·rw [h] at h2
      exact absurd h2 (UInt8.lt_irrefl _)
    ·simp only [List.cons.injEq] at h
     rw [h.1] at h2
     exact absurd h2 (UInt8.lt_irrefl _)
   ·rw [if_neg h2]
    have hab : a = b := UInt8.le_antisymm (UInt8.not_lt.1 h2) (UInt8.not_lt.1 h1)
    subst hab
    simp only [List.cons_lt_cons_iff, h1, false_or, true_and, List.cons.injEq]
    exact ⟨i1, i2⟩
def SortA (l : List (ByteArray × ByteArray)) : Prop := l.Pairwise fun p q => ltN p.1 q.1
theorem leB_ltN {a b : ByteArray} : leB a b = false ↔ ltN b a := by
 unfold leB
 rw [less_ltN]
 rcases ltN_tri a b with h | h | h
 ·constructor
  ·intro e
   simp [h] at e
  ·intro h2
   exact absurd (ltN_trans h h2) (ltN_irr _)
 ·subst h
  constructor
  ·intro e
   simp at e
  ·intro h2
   exact absurd h2 (ltN_irr _)
 ·constructor
  ·intro _
   exact h
  ·intro _
   have h1 : ¬ ltN a b := fun h3 => ltN_irr _ (ltN_trans h h3)
   have h2 : ¬ (a.toList = b.toList) := fun e => by
    rw [ByteArray.toList_eq, ByteArray.toList_eq] at e
    unfold ltN at h
    rw [e] at h
    exact List.lt_irrefl _ h
   simp [h1, h2]
theorem sortA_go : ∀ (l : List (ByteArray × ByteArray)) (prev : Option ByteArray), attrsGo prev l = 0 -> (∀ q, prev = some q -> ∀ p ∈ l, ltN q p.1) /\ SortA l
 | [], prev, h => ⟨(fun _ _ p hp => by cases hp), List.Pairwise.nil⟩
 | p :: r, prev, h => by
  unfold attrsGo at h
  split at h
  ·cases h
  ·rename_i hc
   split at h
   ·obtain ⟨i1, i2⟩ := sortA_go r (some p.1) h
    have i3 := i1 p.1 rfl
    refine ⟨fun q hq x hx => ?_, List.pairwise_cons.2 ⟨i3, i2⟩⟩
    have hqp : ltN q p.1 := by
     rw [<- leB_ltN]
     cases hb : leB p.1 q with
     | false => rfl
     | true => exact absurd (.inr ⟨q, hq, hb⟩) hc
    rcases List.mem_cons.1 hx with rfl | hx
    ·exact hqp
    ·exact ltN_trans hqp (i3 x hx)
   ·rename_i ht
    exact absurd h ht
theorem sortA_of {l : List (ByteArray × ByteArray)} (h : attrsE l = 0) : SortA l /\ l.length <= 32 := by
 unfold attrsE at h
 split at h
 ·cases h
 ·exact ⟨(sortA_go l none h).2, by omega⟩
def lowN (l : List (ByteArray × ByteArray)) (nm : ByteArray) : Nat := (l.filter fun p => decide (ltN p.1 nm)).length
def hasN (l : List (ByteArray × ByteArray)) (nm : ByteArray) : Bool := match l[lowN l nm]? with
 | some p => decide (p.1 = nm)
 | none => false
theorem lowN_le (l : List (ByteArray × ByteArray)) (nm : ByteArray) : lowN l nm <= l.length := List.length_filter_le _ _
theorem low_cut : ∀ {l : List (ByteArray × ByteArray)}, SortA l -> ∀ {nm : ByteArray} {i : Nat} {p : ByteArray × ByteArray}, l[i]? = some p -> (i < lowN l nm ↔ ltN p.1 nm)
 | [], _, _, i, y, h => by simp at h
 | a :: l, hr, nm, i, y, h => by
  obtain ⟨h1, h2⟩ := List.pairwise_cons.1 hr
  by_cases ha : ltN a.1 nm
  ·have e : lowN (a :: l) nm = lowN l nm + 1 := by simp [lowN, ha]
   rw [e]
   cases i with
   | zero =>
    simp at h
    subst h
    exact ⟨fun _ => ha, fun _ => by omega⟩
   | succ i =>
    simp at h
    have ih := low_cut h2 (nm := nm) h
    rw [<- ih]
    omega
  ·have h0 : ∀ p ∈ a :: l, ¬ ltN p.1 nm := by
    intro p hp
    rcases List.mem_cons.1 hp with rfl | hp
    ·exact ha
    ·exact fun h3 => ha (ltN_trans (h1 p hp) h3)
   have e : lowN (a :: l) nm = 0 := by
    unfold lowN
    rw [List.length_eq_zero_iff, List.filter_eq_nil_iff]
    intro p hp
    simpa using h0 p hp
   rw [e]
   exact ⟨fun h => by omega, fun h' => absurd h' (h0 y (List.mem_of_getElem? h))⟩
theorem compare_any (w : World) (x y : ByteArray) : Calls Tryz.prog 173 #[.string x, .string y] w fun e w' => e = .returned (.int .i64 (Lib.compareBytes x.data.toList y.data.toList)) /\ w' = w := by
 have h167 : ∀ w, (callFunc 178 #[.string x, .string y]).run Tryz.prog w = .ok (.value (.int .i64 (Lib.compareBytes x.data.toList y.data.toList))) w := fun w => by
  rw [run_callFunc_extern Tryz.func178 (by kernel_rfl) (by kernel_rfl) (by kernel_rfl) (e := Extern.BytealgCompare.compare) (by kernel_rfl), Lib.run_compareString]
  rfl
 have h165 : Calls Tryz.prog 176 #[.string x, .string y] w fun e w' => e = .returned (.int .i64 (Lib.compareBytes x.data.toList y.data.toList)) /\ w' = w := by
  go_enter Tryz.func176, Tryz.ntmps176
  go_wp2_with (simp only [h167])
  go_ret
  exact ⟨rfl, rfl⟩
 go_enter Tryz.func173, Tryz.ntmps173
 go_wp2_with fail
 refine h165.mono ?_
 rintro e w1 ⟨rfl, rfl⟩
 clear h165
 go_wp2
 go_ret
 exact ⟨rfl, rfl⟩
theorem cmpA_any (w : World) (p : ByteArray × ByteArray) (nm : ByteArray) : Calls Tryz.prog 172 #[.agg #[.string p.1, .string p.2], .string nm] w fun e w' => e = .returned (.int .i64 (Lib.compareBytes p.1.data.toList nm.data.toList)) /\ Below w.heap.size w w' := by
 have hc := compare_any (w.alloc (.cells #[.string p.1, .string p.2] 124)) p.1 nm
 have HB : Hid (Below w.heap.size w (w.alloc (.cells #[.string p.1, .string p.2] 124))) := (Below.refl _ _).alloc (Nat.le_refl _) _
 go_enter Tryz.func172, Tryz.ntmps172
 go_wp2_with fail
 refine hc.mono ?_
 rintro e w1 ⟨rfl, rfl⟩
 clear hc
 go_wp2
 go_ret
 exact ⟨rfl, HB.out⟩
theorem bsearch_any (w : World) (R : Nat -> Prop) (a : Option Addr) (l : List (ByteArray × ByteArray)) (cap : Nat) (nm : ByteArray) (n k : Nat) (hn : l.length = n) (hn2 : n <= 1048576) (hat : AttrsR w R a l) (hR : ∀ b, R b -> b < w.heap.size) (hs : SortA l) (hk : lowN l nm = k) :
  Calls Tryz.prog 171 #[.slice a n cap, .string nm, .func (.func 172) #[] #[]] w fun e w' => e = .returned (.tuple #[.int .i64 (k : Int), .bool (hasN l nm)]) /\ Below w.heap.size w w' := by
 have hn' : (n : Int) <= 1048576 := by omega
 have hkn : k <= n := by rw [<- hk, <- hn]; exact lowN_le l nm
 have HA := hid hat
 have HR := hid hR
 have Hn := hid hn
 have Hcut : Hid (∀ i p, l[i]? = some p -> (i < k ↔ ltN p.1 nm)) := fun i p hp => by rw [<- hk]; exact low_cut hs hp
 have Hhas : Hid (hasN l nm = match l[k]? with | some p => decide (p.1 = nm) | none => false) := by show _ = _; unfold hasN; rw [hk]
 have eg : ∀ args w, (callFunc 172 args).run Tryz.prog w = .ok (.enter 172 args) w := enters_of Tryz.func172 (by kernel_rfl) rfl
 clear hat hR hn hs hk
 go_enter Tryz.func171, Tryz.ntmps171
 go_wp2
 go_loopw [9, 10] (fun i j wr => ∃ (lo hi : Nat), lo <= k /\ k <= hi /\ hi <= n /\ i = .int .i64 (lo : Int) /\ j = .int .i64 (hi : Int) /\ Hid (Below w.heap.size w wr)) (fun i j _ => (intOf j - intOf i).toNat)
 case atStart => exact ⟨0, n, Nat.zero_le _, hkn, Nat.le_refl _, rfl, rfl, Below.refl _ _⟩
 case round =>
  obtain ⟨lo, hi, h1, h2, h3, rfl, rfl, hB⟩ := hrel
  by_cases hlt : lo < hi
  ·obtain ⟨h, hh⟩ : ∃ h : Nat, ((lo : Int) + (hi : Int)) / 2 = (h : Int) := ⟨(lo + hi) / 2, by omega⟩
   have hh1 : lo <= h := by omega
   have hh2 : h < hi := by omega
   have hy := List.getElem?_eq_getElem (l := l) (i := h) (by have := Hn.out; omega)
   generalize l[h]'(by have := Hn.out; omega) = y at *
   obtain ⟨b, o, rfl, hrb, hc1', hc2'⟩ := HA.out h y hy
   have hbl := HR.out b hrb
   have hc1 : wr.cell? ⟨b, o + h * 2, none⟩ = some (.string y.1) := (hB.out.cell (p := ⟨b, _, none⟩) hbl).trans hc1'
   have hc2 : wr.cell? ⟨b, o + h * 2 + 1, none⟩ = some (.string y.2) := (hB.out.cell (p := ⟨b, _, none⟩) hbl).trans hc2'
   have hcm := cmpA_any wr y nm
   have hci := (cmpB y.1.data.toList nm.data.toList).1
   have hck := Hcut.out h y hy
   have hh3 : (h : Int) < (n : Int) := by omega
   have hh4 : (0 : Int) <= (h : Int) := by omega
   generalize Lib.compareBytes y.1.data.toList nm.data.toList = c at *
   clear hy hc1' hc2' hrb
   by_cases hp : h < k
   ·have hcl : c < 0 := hci.2 (hck.1 hp)
    have hcd : decide (c < 0) = true := by simpa using hcl
    clear hci hck
    go_wp2_with fail
    refine hcm.mono ?_
    rintro e w1 ⟨rfl, hb⟩
    have HB1 := hid (hB.out.trans (hb.mono hB.out.size))
    clear hb hcm
    go_wp2
    go_roundw
    case rel => exact ⟨h + 1, hi, by omega, h2, h3, by go_num, rfl, HB1⟩
    case measure => simp [intOf]; omega
   ·have hcl : ¬ c < 0 := fun e => hp (hck.2 (hci.1 e))
    have hcd : decide (c < 0) = false := by simpa using hcl
    clear hci hck
    go_wp2_with fail
    refine hcm.mono ?_
    rintro e w1 ⟨rfl, hb⟩
    have HB1 := hid (hB.out.trans (hb.mono hB.out.size))
    clear hb hcm
    go_wp2
    go_roundw
    case rel => exact ⟨lo, h, h1, by omega, by omega, rfl, rfl, HB1⟩
    case measure => simp [intOf]; omega
  ·have hlk : lo = k := by omega
   subst hlk
   by_cases hkl : lo < n
   ·have hy := List.getElem?_eq_getElem (l := l) (i := lo) (by have := Hn.out; omega)
    generalize l[lo]'(by have := Hn.out; omega) = y at *
    obtain ⟨b, o, rfl, hrb, hc1', hc2'⟩ := HA.out lo y hy
    have hbl := HR.out b hrb
    have hc1 : wr.cell? ⟨b, o + lo * 2, none⟩ = some (.string y.1) := (hB.out.cell (p := ⟨b, _, none⟩) hbl).trans hc1'
    have hc2 : wr.cell? ⟨b, o + lo * 2 + 1, none⟩ = some (.string y.2) := (hB.out.cell (p := ⟨b, _, none⟩) hbl).trans hc2'
    have hcm := cmpA_any wr y nm
    have hci := (cmpB y.1.data.toList nm.data.toList).2
    have hh3 : (lo : Int) < (n : Int) := by omega
    have hh4 : (0 : Int) <= (lo : Int) := by omega
    have HH : Hid (hasN l nm = decide (Lib.compareBytes y.1.data.toList nm.data.toList = 0)) := by
     show _ = _
     rw [Hhas.out, hy]
     simp only
     rw [Bool.eq_iff_iff]
     simp only [decide_eq_true_eq]
     rw [hci]
     constructor
     ·intro e
      rw [e]
     ·intro e
      rcases ltN_tri y.1 nm with h | h | h
      ·unfold ltN at h; rw [e] at h; exact absurd h (List.lt_irrefl _)
      ·exact h
      ·unfold ltN at h; rw [e] at h; exact absurd h (List.lt_irrefl _)
    generalize Lib.compareBytes y.1.data.toList nm.data.toList = c at *
    clear hy hc1' hc2' hrb hci
    go_wp2_with fail
    refine hcm.mono ?_
    rintro e w1 ⟨rfl, hb⟩
    have HB1 := hid (hB.out.trans (hb.mono hB.out.size))
    clear hb hcm
    go_wp2
    go_ret2
    exact ⟨by rw [HH.out]; rfl, HB1.out⟩
   ·have HH : Hid (hasN l nm = false) := by
     show _ = _
     rw [Hhas.out, List.getElem?_eq_none (by have := Hn.out; omega)]
    go_wp2
    go_ret2
    exact ⟨by rw [HH.out]; rfl, hB.out⟩
theorem findAttr_any (w : World) (R : Nat -> Prop) (a : Option Addr) (l : List (ByteArray × ByteArray)) (cap : Nat) (nm : ByteArray) (n k : Nat) (hn : l.length = n) (hn2 : n <= 1048576) (hat : AttrsR w R a l) (hR : ∀ b, R b -> b < w.heap.size) (hs : SortA l) (hk : lowN l nm = k) :
  Calls Tryz.prog 165 #[.slice a n cap, .string nm] w fun e w' => e = .returned (.tuple #[.int .i64 (k : Int), .bool (hasN l nm)]) /\ Below w.heap.size w w' := by
 have hb := bsearch_any w R a l cap nm n k hn hn2 hat hR hs hk
 obtain ⟨t, Ht⟩ : ∃ t, Hid (hasN l nm = t) := ⟨_, rfl⟩
 rw [Ht.out] at hb ⊢
 clear hat hR hs hk hn
 go_enter Tryz.func165, Tryz.ntmps165
 go_wp2_with fail
 refine hb.mono ?_
 rintro e w1 ⟨rfl, hb1⟩
 have HB := hid hb1
 clear hb hb1
 go_wp2
 go_ret2
 exact ⟨rfl, HB.out⟩
end Go.Proofs.YtjkgjckkglfokaaGreat.Gr
/- slices.Insert and slices.Delete of one element: a row of one's own, at attributes. -/
namespace Go.Proofs.YtjkgjckkglfokaaGreat.Gr.A
open Go.RowKit
set_option linter.unusedVariables false
set_option linter.unusedSimpArgs false
set_option maxRecDepth 100000
set_option maxHeartbeats 2000000
theorem infoE : InfoOf Tryz.prog 124 (.agg #[.string ⟨#[]⟩, .string ⟨#[]⟩]) 2 32 := by unfold InfoOf; kernel_rfl
theorem sizeE : (Tryz.prog.info? 124).map (·.size) = some 2 := by kernel_rfl
def InsP (w : World) (base : Nat) (v : Value) (n i : Nat) (xs vs : List Value) (e : Ending) (w' : World) : Prop :=
 ∃ v', e = .returned v' /\ w'.ownsRow base 124 2 v' (n + 1) (xs.take (i * 2) ++ vs ++ xs.drop (i * 2)) /\ w.grownBy w' v.ownBlock /\ (v'.ownBlock = v.ownBlock \/ v'.ownBlock = some w.heap.size)
theorem ins_end (w : World) (base : Nat) (a : Option Addr) (n cap vb : Nat) (xs vs : List Value) (hown : w.ownsRow base 124 2 (.slice a n cap) n xs) (hv : w.heap[vb]? = some (.cells vs.toArray 124 (0, 0))) (hvl : vs.length = 2) (h1v : ∀ u ∈ vs, u.oneCell' = true)
  (hn : n <= 1048576) (hbase : base <= w.heap.size) :
  Calls Tryz.prog 169 #[.slice a n cap, .int .i64 (n : Int), .slice (some ⟨vb, 0, none⟩) 1 1] w (InsP w base (.slice a n cap) n n xs vs) := by
 have hn' : (n : Int) <= 1048576 := by omega
 obtain ⟨hnc, hxl, -⟩ := row_cell hown
 have hcm : cap <= maxLen := by
  rcases hown.2 with ⟨e, _⟩ | ⟨g, cap', cur, e, _, _, _, h, _⟩
  ·simp only [Value.slice.injEq] at e; omega
  ·simp only [Value.slice.injEq, true_and] at e; omega
 unfold maxLen at hcm
 have hcm' : (cap : Int) <= 9223372036854775807 := by omega
 have H := hid hown
 have HV : Hid (∀ j u, vs[j]? = some u -> ∃ ad, (some ⟨vb, 0, none⟩ : Option Addr) = some ad /\ w.cell? (ad.add j) = some u) := fun j u hu => ⟨_, rfl, by
  rw [addrP, Nat.zero_add, cell_of hv]
  exact hu⟩
 clear hown hv
 go_enter Tryz.func169, Tryz.ntmps169
 cases a with
 | none =>
  go_wp2_with (at_builtin; refine wpList_app rfl _ _ rfl Tryz.underlying28 infoE rfl (by decide) base _ n xs rfl H.out _ 1 1 vs rfl (by omega) HV.out h1v (by unfold maxLen; omega) (by omega) hbase ?_; intro v' w' k1 k2 k3 k4)
  all_goals
   go_ret
   refine ⟨v', rfl, ?_, k2, k4⟩
   rw [List.take_of_length_le (by omega), List.drop_of_length_le (by omega), List.append_nil]
   exact k1
 | some ad =>
  go_wp2_with (at_builtin; refine wpList_app rfl _ _ rfl Tryz.underlying28 infoE rfl (by decide) base _ n xs rfl H.out _ 1 1 vs rfl (by omega) HV.out h1v (by unfold maxLen; omega) (by omega) hbase ?_; intro v' w' k1 k2 k3 k4)
  all_goals
   go_ret
   refine ⟨v', rfl, ?_, k2, k4⟩
   rw [List.take_of_length_le (by omega), List.drop_of_length_le (by omega), List.append_nil]
   exact k1
theorem ins_grow (w : World) (base : Nat) (a : Option Addr) (n cap vb i : Nat) (xs vs : List Value) (hown : w.ownsRow base 124 2 (.slice a n cap) n xs) (hv : w.heap[vb]? = some (.cells vs.toArray 124 (0, 0))) (hvl : vs.length = 2) (h1v : ∀ u ∈ vs, u.oneCell' = true) (h1x : ∀ u ∈ xs, u.oneCell' = true)
  (hn : n <= 1048576) (hbase : base <= w.heap.size) (hi : i < n) (hroom : cap < n + 1) :
  Calls Tryz.prog 169 #[.slice a n cap, .int .i64 (i : Int), .slice (some ⟨vb, 0, none⟩) 1 1] w (InsP w base (.slice a n cap) n i xs vs) := by
 obtain ⟨g, cur, rfl, hbg, hcur, hnc, hcm, hcl, hct⟩ := full_of_own hown (by omega)
 obtain ⟨-, hxl, -⟩ := row_cell hown
 have hgl : g < w.heap.size := (Array.getElem?_eq_some_iff.1 hcur).1
 have hvbl : vb < w.heap.size := (Array.getElem?_eq_some_iff.1 hv).1
 unfold maxLen at hcm
 have hn' : (n : Int) <= 1048576 := by omega
 have hcm' : (cap : Int) <= 9223372036854775807 := by omega
 have hc1 : (cap : Int) < (n : Int) + 1 := by omega
 have hc2 : (n : Int) <= (cap : Int) := by omega
 have hi1 : (i : Int) < (n : Int) := by omega
 have hi2 : ((i : Int) == (n : Int)) = false := by simp; omega
 have hi3 : ¬ ((i : Int) = (n : Int)) := by omega
 have hi4 : (i : Int) <= (cap : Int) := by omega
 have hi5 : ¬ (cap = i) := by omega
 have hk : (n : Int) + 1 - (i : Int) = ((n + 1 - i : Nat) : Int) := by omega
 have hik : Hid (i + (n + 1 - i) = n + 1) := by show _ = _; omega
 have Hx : Hid (∀ j u, (xs.take (i * 2))[j]? = some u -> w.cell? ((⟨g, 0, none⟩ : Addr).add j) = some u) := fun j u hu => by
  rw [addrP, Nat.zero_add, cell_of hcur]
  rw [List.getElem?_take] at hu
  split at hu
  ·rw [<- hct, List.getElem?_take] at hu
   split at hu
   ·exact hu
   ·cases hu
  ·cases hu
 have Hcur := hid hcur
 have Hv := hid hv
 have Hct := hid hct
 have Hxl := hid hxl
 have Hvl := hid hvl
 have Hcl := hid hcl
 have tok1 : True := trivial
 have tok2 : True := trivial
 clear hown hcur hv hct hxl hvl hcl
 go_enter Tryz.func169, Tryz.ntmps169
 go_wp2_with (first
  | (at_builtin; have _t := tok1; go_must (refine wpList_zeros _ rfl _ _ 28 3 124 .i64 .i64 rfl Tryz.underlying28 Tryz.underlying3 infoE rfl (by decide) ⟨g, 0, none⟩ i cap _ (n + 1 - i) rfl (xs.take (i * 2)) (by have := Hxl.out; simp; omega) rfl rfl Hx.out (by omega) (by omega) (by omega) (by omega) ?_; intro w1 G cur1 k1 k2 k3 k4 k5 k6 k7; rw [hik.out] at k4 ⊢; clear tok1 _t; unfold maxLen at k5; have k5' : (G : Int) <= 9223372036854775807 := (by omega); have k8 : ¬ (G = i) := (by omega); have k9 : (n : Int) + 1 <= (G : Int) := (by omega); have K1 := hid k1; clear k1; have K2 := hid k2; clear k2; have K3 := hid k3; clear k3; have K6 := hid k6; clear k6; have K7 : Hid (w1.heap.size = w.heap.size + 1) := k7; clear k7))
  | (have _t := tok2; have _k := K1; (refine wpList_copyK _ rfl _ _ 28 28 124 rfl 2 w.heap.size (i * 2) (n + 1 - i) (G - i) (some ⟨vb, 0, none⟩) 1 1 cur1 124 vs rfl rfl Tryz.underlying28 sizeE K1.out (by rw [Hvl.out, show Nat.min 1 (n + 1 - i) = 1 from Nat.min_eq_left (by omega)]) (fun j u hu => ⟨_, rfl, by
     rw [addrP, Nat.zero_add, World.cell?_of_block (w := w) (a := ⟨vb, j, none⟩) (K6.out.block vb hvbl (by simp)), cell_of Hv.out]; exact hu⟩) (by rw [Hvl.out, K2.out]; omega) h1v ?_; intro w2 m1 m2 m3; clear tok2 _t; have M1 : Hid (w2.heap[w.heap.size]? = some (.cells (over cur1 (i * 2) vs).toArray 124 (0, 0))) := m1; clear m1; have M2 : Hid (w1.grownBy w2 (some w.heap.size)) := m2; clear m2; have M3 : Hid (w2.heap.size = w1.heap.size) := m3; clear m3)))
 have hd0 : (i : Int) <= (n : Int) := by omega
 have hd0' : i <= n := by omega
 have hd1 : (0 : Int) <= (i : Int) + 1 := by omega
 have hd2 : (i : Int) + 1 <= (n : Int) + 1 := by omega
 have hd3 : ((i : Int) + 1).toNat = i + 1 := by omega
 have hd4 : ¬ (G = i + 1) := by omega
 have hd5 : (i : Int) + 1 <= (G : Int) := by omega
 have hd6 : IntKind.i64.wrap ((i : Int) + 1) = (i : Int) + 1 := by rw [IntKind.wrap_i64]; omega
 have Hsrc : Hid (∀ j u, (xs.drop (i * 2))[j]? = some u -> ∃ ad, (some ⟨g, i * 2, none⟩ : Option Addr) = some ad /\ w2.drew.cell? (ad.add j) = some u) := fun j u hu => ⟨_, rfl, by
  have hgg : w2.heap[g]? = w.heap[g]? := (M2.out.block g (by have := K7.out; omega) (by simp; omega)).trans (K6.out.block g hgl (by simp))
  rw [addrP]
  show w2.cell? _ = _
  rw [World.cell?_of_block (w := w) (a := ⟨g, i * 2 + j, none⟩) hgg, cell_of Hcur.out]
  rw [List.getElem?_drop] at hu
  rw [<- Hct.out, List.getElem?_take] at hu
  split at hu
  ·simpa using hu
  ·cases hu⟩
 go_region_law (go_must (refine step_copyK rfl _ _ 28 28 124 rfl 2 w.heap.size ((i + 1) * 2) (n + 1 - (i + 1)) (G - (i + 1)) (some ⟨g, i * 2, none⟩) (n - i) (cap - i) (over cur1 (i * 2) vs) 124 (xs.drop (i * 2)) (by simp [Act.eval, Act.put]) (by simp [Act.eval, Act.put]) Tryz.underlying28 sizeE M1.out (by
   have := Hxl.out
   rw [List.length_drop, show Nat.min (n - i) (n + 1 - (i + 1)) = n - i from by simp only [Nat.min_def]; split <;> omega]; omega) Hsrc.out (by
   have h1 := Hxl.out
   have h2 := K2.out
   have h3 := Hvl.out
   rw [over_length (by omega), List.length_drop]; omega) (fun u hu => h1x u (List.mem_of_mem_drop hu)) ?_; intro w3 p1 p2 p3; have P1 : Hid (w3.heap[w.heap.size]? = some (.cells (over (over cur1 (i * 2) vs) ((i + 1) * 2) (xs.drop (i * 2))).toArray 124 (0, 0))) := p1; clear p1; have P2 : Hid (w2.grownBy w3 (some w.heap.size)) := ⟨p2.os, p2.tape, p2.output, p2.size, p2.block⟩; clear p2; have P3 : Hid (w3.heap.size = w2.heap.size) := p3; clear p3))
 all_goals
  go_wp2
  go_ret
  have z1 := K7.out
  have z2 := M3.out
  have hgr : w.grownBy w3 (Value.slice (some ⟨g, 0, none⟩) n cap).ownBlock :=
   ⟨P2.out.os.trans (M2.out.os.trans K6.out.os), P2.out.tape.trans (M2.out.tape.trans K6.out.tape), P2.out.output.trans (M2.out.output.trans K6.out.output), by have := P3.out; omega, fun k hk _ =>
    (P2.out.block k (by omega) (by simp; omega)).trans ((M2.out.block k (by omega) (by simp; omega)).trans (K6.out.block k hk (by simp)))⟩
  have h1 := Hxl.out
  have h2 := K2.out
  have h3 := Hvl.out
  refine ⟨_, rfl, own_of_full P1.out hbase (by omega) (by unfold maxLen; omega) (by rw [over_length (by rw [over_length (by omega), List.length_drop]; omega), over_length (by omega)]; exact h2) ?_, hgr, .inr rfl⟩
  have := over_grow (cur := cur1) (xs := xs) (vs := vs) (i := i) (n := n) (k := 2) h1 K3.out (by omega) h3 (by omega)
  simpa using this
theorem overlaps_no (w : World) (vb b off lb cb : Nat) (hne : vb ≠ b) (vs cur : List Value) (t t' : TypeId) (hv : w.heap[vb]? = some (.cells vs.toArray t (0, 0))) (hb : w.heap[b]? = some (.cells cur.toArray t' (0, 0))) (hc : cur.length ≠ 0) :
  (callFunc 174 #[.slice (some ⟨vb, 0, none⟩) 1 1, .slice (some ⟨b, off, none⟩) lb cb]).run Tryz.prog w = .ok (.value (.bool false)) w := by
 rw [run_callFunc_extern Tryz.func174 (by kernel_rfl) (by kernel_rfl) (by kernel_rfl) (e := Extern.SlicesOverlaps.overlaps #[28, 28] #[4]) (by kernel_rfl),
  Lib.run_overlaps_apart w 28 4 124 Tryz.underlying28 2 (fun w => by obtain ⟨i0, hi, _, h1, _⟩ := infoE.parts; simp [sizeOf, typeInfo, hi, h1]) ⟨vb, 0, none⟩ ⟨b, off, none⟩ 1 1 lb cb hne t t' vs.length cur.length (by simp [World.shape?, hv]) (by simp [World.shape?, hb]) hc (by simp [World.frozen?, hv]) (by simp [World.frozen?, hv])]
 rfl
theorem ins_shift (w : World) (base : Nat) (a : Option Addr) (n cap vb i : Nat) (xs vs : List Value) (hown : w.ownsRow base 124 2 (.slice a n cap) n xs) (hv : w.heap[vb]? = some (.cells vs.toArray 124 (0, 0))) (hvl : vs.length = 2) (h1v : ∀ u ∈ vs, u.oneCell' = true) (h1x : ∀ u ∈ xs, u.oneCell' = true)
  (hn : n <= 1048576) (hbase : base <= w.heap.size) (hi : i < n) (hroom : n + 1 <= cap) (hne : (Value.slice a n cap).ownBlock ≠ some vb) :
  Calls Tryz.prog 169 #[.slice a n cap, .int .i64 (i : Int), .slice (some ⟨vb, 0, none⟩) 1 1] w (InsP w base (.slice a n cap) n i xs vs) := by
 obtain ⟨g, cur, rfl, hbg, hcur, hnc, hcm, hcl, hct⟩ := full_of_own hown (by omega)
 obtain ⟨-, hxl, -⟩ := row_cell hown
 have hgl : g < w.heap.size := (Array.getElem?_eq_some_iff.1 hcur).1
 have hvbl : vb < w.heap.size := (Array.getElem?_eq_some_iff.1 hv).1
 have hvg : vb ≠ g := fun e => hne (by rw [e]; rfl)
 have hov : ∀ lb cb, (callFunc 174 #[.slice (some ⟨vb, 0, none⟩) 1 1, .slice (some ⟨g, (i + 1) * 2, none⟩) lb cb]).run Tryz.prog w = .ok (.value (.bool false)) w := fun lb cb => overlaps_no w vb g _ lb cb hvg vs cur _ _ hv hcur (by omega)
 unfold maxLen at hcm
 have hn' : (n : Int) <= 1048576 := by omega
 have hcm' : (cap : Int) <= 9223372036854775807 := by omega
 have hc1 : (n : Int) + 1 <= (cap : Int) := by omega
 have hc2 : (n : Int) <= (cap : Int) := by omega
 have hi1 : (i : Int) < (n : Int) := by omega
 have hi2 : ((i : Int) == (n : Int)) = false := by simp; omega
 have hi3 : ¬ ((i : Int) = (n : Int)) := by omega
 have hi4 : (i : Int) <= (cap : Int) := by omega
 have hi5 : ¬ (cap = i) := by omega
 have hi6 : ¬ (cap = i + 1) := by omega
 have hi7 : (i : Int) + 1 <= (n : Int) + 1 := by omega
 have hi8 : i <= n + 1 := by omega
 have hi9 : (i : Int) <= (n : Int) + 1 := by omega
 have hd1 : (0 : Int) <= (i : Int) + 1 := by omega
 have hd3 : ((i : Int) + 1).toNat = i + 1 := by omega
 have hd6 : IntKind.i64.wrap ((i : Int) + 1) = (i : Int) + 1 := by rw [IntKind.wrap_i64]; omega
 have Hsrc : Hid (∀ j u, (xs.drop (i * 2))[j]? = some u -> ∃ ad, (some ⟨g, i * 2, none⟩ : Option Addr) = some ad /\ w.drew.cell? (ad.add j) = some u) := fun j u hu => ⟨_, rfl, by
  rw [addrP]
  show w.cell? _ = _
  rw [cell_of hcur]
  rw [List.getElem?_drop] at hu
  rw [<- hct, List.getElem?_take] at hu
  split at hu
  ·simpa using hu
  ·cases hu⟩
 have Hcur := hid hcur
 have Hv := hid hv
 have Hct := hid hct
 have Hxl := hid hxl
 have Hvl := hid hvl
 have Hcl : Hid (cur.length = cap * 2) := hcl
 have tok2 : True := trivial
 clear hown hcur hv hct hxl hvl hcl hne
 go_enter Tryz.func169, Tryz.ntmps169
 go_wp2_with (simp only [hov])
 go_region_law (go_must (refine step_copyK rfl _ _ 28 28 124 rfl 2 g ((i + 1) * 2) (n + 1 - (i + 1)) (cap - (i + 1)) (some ⟨g, i * 2, none⟩) (n + 1 - i) (cap - i) cur 124 (xs.drop (i * 2)) (by simp [Act.eval, Act.put]) (by simp [Act.eval, Act.put]) Tryz.underlying28 sizeE Hcur.out (by
   have := Hxl.out
   rw [List.length_drop, show Nat.min (n + 1 - i) (n + 1 - (i + 1)) = n - i from by simp only [Nat.min_def]; split <;> omega]; omega) Hsrc.out (by
   have h1 := Hxl.out
   have h2 := Hcl.out
   rw [List.length_drop]; omega) (fun u hu => h1x u (List.mem_of_mem_drop hu)) ?_; intro w2 p1 p2 p3; have M1 : Hid (w2.heap[g]? = some (.cells (over cur ((i + 1) * 2) (xs.drop (i * 2))).toArray 124 (0, 0))) := p1; clear p1; have M2 : Hid (w.grownBy w2 (some g)) := ⟨p2.os, p2.tape, p2.output, p2.size, p2.block⟩; clear p2; have M3 : Hid (w2.heap.size = w.heap.size) := p3; clear p3))
 all_goals
  go_wp2_with (have _t := tok2; (refine wpList_copyK _ rfl _ _ 28 28 124 rfl 2 g (i * 2) (n + 1 - i) (cap - i) (some ⟨vb, 0, none⟩) 1 1 (over cur ((i + 1) * 2) (xs.drop (i * 2))) 124 vs rfl rfl Tryz.underlying28 sizeE M1.out (by rw [Hvl.out, show Nat.min 1 (n + 1 - i) = 1 from Nat.min_eq_left (by omega)]) (fun j u hu => ⟨_, rfl, by
     rw [addrP, Nat.zero_add, World.cell?_of_block (w := w) (a := ⟨vb, j, none⟩) (M2.out.block vb hvbl (by simp; omega)), cell_of Hv.out]; exact hu⟩) (by
      have h1 := Hxl.out
      have h2 := Hcl.out
      rw [Hvl.out, over_length (by rw [List.length_drop]; omega)]; omega) h1v ?_; intro w3 m1 m2 m3; clear tok2 _t; have P1 : Hid (w3.heap[g]? = some (.cells (over (over cur ((i + 1) * 2) (xs.drop (i * 2))) (i * 2) vs).toArray 124 (0, 0))) := m1; clear m1; have P2 : Hid (w2.grownBy w3 (some g)) := m2; clear m2; have P3 : Hid (w3.heap.size = w2.heap.size) := m3; clear m3))
  go_ret
  have z2 := M3.out
  have hgr : w.grownBy w3 (Value.slice (some ⟨g, 0, none⟩) n cap).ownBlock :=
   ⟨P2.out.os.trans M2.out.os, P2.out.tape.trans M2.out.tape, P2.out.output.trans M2.out.output, by have := P3.out; omega, fun k hk hne => (P2.out.block k (by omega) hne).trans (M2.out.block k hk hne)⟩
  have h1 := Hxl.out
  have h2 := Hcl.out
  have h3 := Hvl.out
  refine ⟨_, rfl, own_of_full P1.out hbg (by omega) (by unfold maxLen; omega) (by rw [over_length (by rw [over_length (by rw [List.length_drop]; omega)]; omega), over_length (by rw [List.length_drop]; omega)]; exact h2) ?_, hgr, .inl rfl⟩
  have := over_shift (cur := cur) (xs := xs) (vs := vs) (i := i) (n := n) (k := 2) Hct.out (by omega) h3 (by omega)
  simpa using this
theorem insert_any (w : World) (base : Nat) (a : Option Addr) (n cap vb i : Nat) (xs vs : List Value) (hown : w.ownsRow base 124 2 (.slice a n cap) n xs) (hv : w.heap[vb]? = some (.cells vs.toArray 124 (0, 0))) (hvl : vs.length = 2) (h1v : ∀ u ∈ vs, u.oneCell' = true) (h1x : ∀ u ∈ xs, u.oneCell' = true)
  (hn : n <= 1048576) (hbase : base <= w.heap.size) (hi : i <= n) (hne : (Value.slice a n cap).ownBlock ≠ some vb) :
  Calls Tryz.prog 169 #[.slice a n cap, .int .i64 (i : Int), .slice (some ⟨vb, 0, none⟩) 1 1] w (InsP w base (.slice a n cap) n i xs vs) := by
 by_cases hin : i = n
 ·subst hin
  exact ins_end w base a i cap vb xs vs hown hv hvl h1v hn hbase
 ·by_cases hr : n + 1 <= cap
  ·exact ins_shift w base a n cap vb i xs vs hown hv hvl h1v h1x hn hbase (by omega) hr hne
  ·exact ins_grow w base a n cap vb i xs vs hown hv hvl h1v h1x hn hbase (by omega) (by omega)
theorem delete_any (w : World) (B : Nat) (a : Option Addr) (n cap i : Nat) (xs : List Value) (hown : w.ownsRow B 124 2 (.slice a n cap) n xs) (h1x : ∀ u ∈ xs, u.oneCell' = true) (hn : n <= 1048576) (hi : i < n) :
  Calls Tryz.prog 166 #[.slice a n cap, .int .i64 (i : Int), .int .i64 ((i : Int) + 1)] w fun e w' => e = .returned (.slice a (n - 1) cap) /\ w'.ownsRow B 124 2 (.slice a (n - 1) cap) (n - 1) (xs.take (i * 2) ++ xs.drop ((i + 1) * 2)) /\ w.grownBy w' (Value.slice a n cap).ownBlock := by
 obtain ⟨g, cur, rfl, hbg, hcur, hnc, hcm, hcl, hct⟩ := full_of_own hown (by omega)
 obtain ⟨-, hxl, -⟩ := row_cell hown
 unfold maxLen at hcm
 have hn' : (n : Int) <= 1048576 := by omega
 have hcm' : (cap : Int) <= 9223372036854775807 := by omega
 have hc2 : (n : Int) <= (cap : Int) := by omega
 have hi1 : (i : Int) + 1 <= (n : Int) := by omega
 have hi2 : ((i : Int) == (i : Int) + 1) = false := by simp; omega
 have hi3 : (i : Int) <= (n : Int) := by omega
 have hi4 : (i : Int) <= (cap : Int) := by omega
 have hi5 : ¬ (cap = i) := by omega
 have hi6 : (0 : Int) <= (i : Int) + 1 := by omega
 have hi7 : ((i : Int) + 1).toNat = i + 1 := by omega
 have hi8 : (i : Int) <= (i : Int) + 1 := by omega
 have hi9 : (0 : Int) <= (i : Int) := by omega
 have hi10 : (i : Int) + 1 <= (cap : Int) := by omega
 have hi11 : i <= cap := by omega
 have hmm : Hid (i + (n - (i + 1)) = n - 1) := by show _ = _; omega
 obtain ⟨A, hA, HA⟩ : ∃ A, (if cap = i + 1 then some (⟨g, 0, none⟩ : Addr) else some ⟨g, (i + 1) * 2, none⟩) = some A /\ Hid (∀ j u, (xs.drop ((i + 1) * 2))[j]? = some u -> w.drew.cell? (A.add j) = some u) := by
  by_cases e : cap = i + 1
  ·refine ⟨_, if_pos e, fun j u hu => ?_⟩
   rw [List.drop_of_length_le (by omega)] at hu
   simp at hu
  ·refine ⟨_, if_neg e, fun j u hu => ?_⟩
   rw [addrP]
   show w.cell? _ = _
   rw [cell_of hcur]
   rw [List.getElem?_drop] at hu
   rw [<- hct, List.getElem?_take] at hu
   split at hu
   ·exact hu
   ·cases hu
 have Hcur : Hid (w.heap[g]? = some (.cells cur.toArray 124 (0, 0))) := hcur
 have Hct : Hid (cur.take (n * 2) = xs) := hct
 have Hxl : Hid (xs.length = n * 2) := hxl
 have Hcl : Hid (cur.length = cap * 2) := hcl
 have tok1 : True := trivial
 clear hown hcur hct hxl hcl
 go_enter Tryz.func166, Tryz.ntmps166
 go_wp2
 go_region_law (have _t := tok1; go_must (refine step_moveK rfl _ _ 28 124 rfl Tryz.underlying28 infoE g i cap A (n - (i + 1)) (cap - (i + 1)) cur (xs.drop ((i + 1) * 2)) 124 (by simp [Act.eval, Act.put]) (by simp [Act.eval, Act.put]) Hcur.out (by have := Hxl.out; rw [List.length_drop]; omega) HA.out (fun u hu => h1x u (List.mem_of_mem_drop hu)) (by omega) Hcl.out ?_; intro w2 p1 p2 p3; rw [hmm.out]; have M1 : Hid (w2.heap[g]? = some (.cells (over cur (i * 2) (xs.drop ((i + 1) * 2))).toArray 124 (0, 0))) := p1; clear p1; have M2 : Hid (w.grownBy w2 (some g)) := ⟨p2.os, p2.tape, p2.output, p2.size, p2.block⟩; clear p2; have M3 : Hid (w2.heap.size = w.heap.size) := p3; clear p3 tok1 _t))
 all_goals
  have hd1 : ((n - 1 : Nat) : Int) <= (n : Int) := by omega
  have hd2 : ¬ (cap = n - 1) := by omega
  have hd3 : n - 1 <= n := by omega
  have hd4 : n <= cap := by omega
  have tok2 : True := trivial
  have Hov : Hid ((over cur (i * 2) (xs.drop ((i + 1) * 2))).length = cap * 2) := by
   show _ = _
   have h1 := Hxl.out
   have h2 := Hcl.out
   rw [over_length (by rw [List.length_drop]; omega), h2]
  go_wp2_with (have _t := tok2; have _m := M1; (refine wpList_clearK _ rfl _ 28 124 rfl Tryz.underlying28 infoE rfl (by intro u hu; simp [Value.cells] at hu; subst hu; rfl) (by decide) g ((n - 1) * 2) (n - (n - 1)) (cap - (n - 1)) (over cur (i * 2) (xs.drop ((i + 1) * 2))) 124 rfl M1.out (by omega) (by rw [Hov.out]; omega) ?_; intro w3 zs q0 q1 q2 q3; clear tok2 _t _m))
  go_ret
  have h1 := Hxl.out
  have h2 := Hcl.out
  have hzl : zs.length = 2 := by rw [q0, show n - (n - 1) = 1 by omega, Nat.one_mul]
  refine ⟨rfl, own_of_full q1 hbg (by omega) (by unfold maxLen; omega) (by rw [over_length (by rw [Hov.out]; omega), Hov.out]) ?_, ⟨q2.os.trans M2.out.os, q2.tape.trans M2.out.tape, q2.output.trans M2.out.output, by have := M3.out; omega, fun k hk hne => (q2.block k (by have := M3.out; omega) hne).trans (M2.out.block k hk hne)⟩⟩
  exact over_del (cur := cur) (xs := xs) (zs := zs) (i := i) (n := n) (k := 2) Hct.out hi hzl (by omega)
end Go.Proofs.YtjkgjckkglfokaaGreat.Gr.A
/- SetAttr and DropAttr of the program. -/
namespace Go.Proofs.YtjkgjckkglfokaaGreat.Gr
open Go.RowKit
set_option linter.unusedVariables false
set_option linter.unusedSimpArgs false
set_option maxRecDepth 100000
set_option maxHeartbeats 2000000
theorem has_idx {l : List (ByteArray × ByteArray)} (hs : SortA l) (nm : ByteArray) : l.findIdx? (fun p => decide (p.1 = nm)) = if hasN l nm then some (lowN l nm) else none := by
 unfold hasN
 cases hk : l[lowN l nm]? with
 | none =>
  simp only [Bool.false_eq_true, if_false]
  rw [List.findIdx?_eq_none_iff]
  intro p hp
  obtain ⟨i, hi⟩ := List.getElem?_of_mem hp
  have h1 := low_cut hs (nm := nm) hi
  have h2 : l.length <= lowN l nm := List.getElem?_eq_none_iff.1 hk
  have h3 := (List.getElem?_eq_some_iff.1 hi).1
  have h4 := h1.1 (by omega)
  simp only [decide_eq_false_iff_not]
  intro e
  rw [e] at h4
  exact ltN_irr _ h4
 | some p =>
  simp only
  have hno : ∀ j q, j < lowN l nm -> l[j]? = some q -> q.1 ≠ nm := fun j q hj hq e => by
   have := (low_cut hs (nm := nm) hq).1 hj
   rw [e] at this
   exact ltN_irr _ this
  by_cases he : p.1 = nm
  ·rw [if_pos (by simpa using he), List.findIdx?_eq_some_iff_getElem]
   have hlt := (List.getElem?_eq_some_iff.1 hk).1
   refine ⟨hlt, by rw [(List.getElem?_eq_some_iff.1 hk).2]; simpa using he, fun j hj => ?_⟩
   have := hno j l[j] hj (List.getElem?_eq_getElem (by omega))
   simpa using this
  ·rw [if_neg (by simpa using he), List.findIdx?_eq_none_iff]
   intro q hq
   obtain ⟨j, hj⟩ := List.getElem?_of_mem hq
   simp only [decide_eq_false_iff_not]
   intro e
   by_cases h1 : j < lowN l nm
   ·exact hno j q h1 hj e
   ·by_cases h2 : j = lowN l nm
    ·subst h2
     rw [hk] at hj
     cases hj
     exact he e
    ·have hlt := (List.getElem?_eq_some_iff.1 hk).1
     have hjl := (List.getElem?_eq_some_iff.1 hj).1
     have hp := (List.pairwise_iff_getElem.1 hs) (lowN l nm) j hlt hjl (by omega)
     rw [(List.getElem?_eq_some_iff.1 hk).2, (List.getElem?_eq_some_iff.1 hj).2] at hp
     have h3 : ¬ ltN p.1 nm := fun h => by
      have := (low_cut hs (nm := nm) hk).2 h
      omega
     rw [e] at hp
     exact h3 hp
theorem WF.sort {D : Dc} (hw : WF D) {h i : Nat} {s : Sl} (ha : atI D.S h = some i) (hi : D.S[i]? = some s) (hk : s.kind = 1) : SortA s.attrs /\ s.attrs.length <= 32 := by
 obtain ⟨s', h1, h2, _⟩ := atI_some ha
 rw [hi] at h1
 cases h1
 have ho := hw.own i s hi h2
 unfold ownE at ho
 rw [if_pos (by exact hk)] at ho
 split at ho
 ·exact sortA_of ho
 ·cases ho
theorem attrCells_cons (p : ByteArray × ByteArray) (l : List (ByteArray × ByteArray)) : attrCells (p :: l) = .string p.1 :: .string p.2 :: attrCells l := rfl
theorem attrCells_take : ∀ (l : List (ByteArray × ByteArray)) (k : Nat), attrCells (l.take k) = (attrCells l).take (k * 2)
 | [], k => by simp [attrCells]
 | p :: l, 0 => by simp [attrCells]
 | p :: l, k + 1 => by
  rw [List.take_succ_cons, attrCells_cons, attrCells_cons, attrCells_take l k, show (k + 1) * 2 = k * 2 + 1 + 1 by omega, List.take_succ_cons, List.take_succ_cons]
theorem attrCells_drop : ∀ (l : List (ByteArray × ByteArray)) (k : Nat), attrCells (l.drop k) = (attrCells l).drop (k * 2)
 | [], k => by simp [attrCells]
 | p :: l, 0 => by simp
 | p :: l, k + 1 => by
  rw [List.drop_succ_cons, attrCells_cons, attrCells_drop l k, show (k + 1) * 2 = k * 2 + 1 + 1 by omega, List.drop_succ_cons, List.drop_succ_cons]
theorem attrCells_set : ∀ (l : List (ByteArray × ByteArray)) (k : Nat) (p : ByteArray × ByteArray) (v : ByteArray), l[k]? = some p -> attrCells (l.set k (p.1, v)) = (attrCells l).set (k * 2 + 1) (.string v)
 | [], k, p, v, h => by simp at h
 | q :: l, 0, p, v, h => by
  simp at h
  subst h
  rfl
 | q :: l, k + 1, p, v, h => by
  simp at h
  rw [List.set_cons_succ, attrCells_cons, attrCells_cons, attrCells_set l k p v h, show (k + 1) * 2 + 1 = (k * 2 + 1) + 1 + 1 by omega, List.set_cons_succ, List.set_cons_succ]
theorem PdS.inAttrs {w w' : World} {ro : Nat -> Nat} {db : Nat} {D : Dc} {g scap : Nat} {ra : Option Addr} {rcap : Nat} {L : List (Value × Value)} (h : PdS w ro db D (some ⟨g, 0, none⟩) scap ra rcap L) {i : Nat} {s : Sl} {p : Value × Value} (hs : D.S[i]? = some s) (hp : L[i]? = some p) {l' : List (ByteArray × ByteArray)} (hg : w.grownBy w' p.1.ownBlock)
  (hown : w'.ownsRow 0 124 2 p.1 l'.length (attrCells l')) : PdS w' ro db { D with S := D.S.set i { s with attrs := l' } } (some ⟨g, 0, none⟩) scap ra rcap L := by
 have hi := (List.getElem?_eq_some_iff.1 hs).1
 have hLs : L.set i p = L := by
  apply List.ext_getElem?
  intro m
  by_cases e : m = i
  ·subst e; rw [List.getElem?_set_self (by rw [h.len]; exact hi), hp]
  ·rw [List.getElem?_set_ne (by omega)]
 have hrow : rowOf (D.S.set i { s with attrs := l' }) L = rowOf D.S L := by
  have h1 := rowOf_set h.len hs hp (j := 4) (s' := { s with attrs := l' }) (p' := p) (u := p.1) (by omega) rfl
  rw [hLs] at h1
  rw [h1]
  have h2 : (rowOf D.S L)[i * 8 + 4]? = some p.1 := by rw [rowOf_get hs hp (by omega)]; rfl
  apply List.ext_getElem?
  intro m
  by_cases e : m = i * 8 + 4
  ·subst e
   rw [List.getElem?_set_self (List.getElem?_eq_some_iff.1 h2).1, h2]
  ·rw [List.getElem?_set_ne (by omega)]
 have hk : ∀ b, ro b ≠ 0 -> ro b ≠ 2 * i + 4 -> w'.heap[b]? = w.heap[b]? := fun b h1 h2 => hg.block b (h.lt b h1) (fun e => h2 (h.rat i p b hp e.symm))
 refine ⟨?_, ?_, own_of_block h.roots (fun k hk' => hk k (by rw [h.rr k hk']; omega) (by rw [h.rr k hk']; omega)), by simpa using h.len, fun m x y hx hy => ?_, h.rdb, by simpa using h.rs, h.rr, h.rat, h.rk, fun b hb => Nat.lt_of_lt_of_le (h.lt b hb) hg.size⟩
 ·have := h.head.of_block (hk db (by rw [h.rdb]; omega) (by rw [h.rdb]; omega))
  rw [show cnt Sl.live ({ D with S := D.S.set i { s with attrs := l' } } : Dc).S = cnt Sl.live D.S from cnt_set hs rfl]
  simpa using this
 ·have := own_of_block h.slots (w' := w') (fun k hk' => hk k (by rw [h.rs k hk']; omega) (by rw [h.rs k hk']; omega))
  show w'.ownsRow 0 100 8 _ (D.S.set i { s with attrs := l' }).length (rowOf (D.S.set i { s with attrs := l' }) L)
  rw [hrow]
  simpa using this
 ·by_cases hm : m = i
  ·subst hm
   have hx' : (D.S.set m { s with attrs := l' })[m]? = some x := hx
   rw [List.getElem?_set_self hi] at hx'
   cases hx'
   rw [hp] at hy
   cases hy
   obtain ⟨_, v2⟩ := h.vals m s p hs hp
   exact ⟨hown, own_of_block v2 (fun b hb => hk b (by rw [h.rk m p b hp hb]; omega) (by rw [h.rk m p b hp hb]; omega))⟩
  ·have hx' : (D.S.set i { s with attrs := l' })[m]? = some x := hx
   rw [List.getElem?_set_ne (by omega)] at hx'
   obtain ⟨v1, v2⟩ := h.vals m x y hx' hy
   exact ⟨own_of_block v1 (fun b hb => hk b (by rw [h.rat m y b hy hb]; omega) (by rw [h.rat m y b hy hb]; omega)), own_of_block v2 (fun b hb => hk b (by rw [h.rk m y b hy hb]; omega) (by rw [h.rk m y b hy hb]; omega))⟩
structure AttAt (w : World) (ro : Nat -> Nat) (db : Nat) (D : Dc) (i : Nat) (s : Sl) (g scap : Nat) (aa : Option Addr) (ac : Nat) : Prop where
 hd : w.cell? ⟨db, 0, none⟩ = some (.slice (some ⟨g, 0, none⟩) D.S.length scap)
 cell : w.cell? ⟨g, i * 8 + 4, none⟩ = some (.slice aa s.attrs.length ac)
 fz : w.frozen? ⟨g, i * 8 + 4, none⟩ = false
 own : w.ownsRow 0 124 2 (.slice aa s.attrs.length ac) s.attrs.length (attrCells s.attrs)
 rog : ro g ≠ 0
 lt : g < w.heap.size
 ne : ∀ k, (Value.slice aa s.attrs.length ac).ownBlock = some k -> k ≠ g /\ ro k ≠ 0
 put : ∀ w' l' a' c', w.grownBy w' (Value.slice aa s.attrs.length ac).ownBlock -> w'.ownsRow 0 124 2 (.slice a' l'.length c') l'.length (attrCells l') -> (∀ k, (Value.slice a' l'.length c').ownBlock = some k -> (Value.slice aa s.attrs.length ac).ownBlock = some k \/ w.heap.size <= k) ->
  ∃ ro', PE w ro db { D with S := D.S.set i { s with attrs := l' } } (w'.setCell ⟨g, i * 8 + 4, none⟩ (.slice a' l'.length c')) ro'
 inp : ∀ w' l', w.grownBy w' (Value.slice aa s.attrs.length ac).ownBlock -> w'.ownsRow 0 124 2 (.slice aa s.attrs.length ac) l'.length (attrCells l') -> PE w ro db { D with S := D.S.set i { s with attrs := l' } } w' ro
theorem att_at {w : World} {ro : Nat -> Nat} {db : Nat} {D : Dc} (hd : PDoc w ro db D) {i : Nat} {s : Sl} (hi : D.S[i]? = some s) : ∃ g scap aa ac, AttAt w ro db D i s g scap aa ac := by
 obtain ⟨sa, scap, ra, rcap, L, h⟩ := hd
 obtain ⟨g, q, rfl, hg2, hq, hcap, hhd, hcl⟩ := h.slot hi
 obtain ⟨v1, v2⟩ := h.vals i s q hi hq
 obtain ⟨aa, ac, e1⟩ := own_slice v1
 obtain ⟨c4, f4⟩ := hcl 4 _ rfl
 have hq1 : q.1 = .slice aa s.attrs.length ac := e1
 refine ⟨g, scap, aa, ac, hhd, by rw [<- hq1]; exact c4, f4, by rw [<- hq1]; exact v1, by omega, h.lt g (by omega), fun k hk => ?_, fun w' l' a' c' h1 h2 h3 => ?_, fun w' l' h1 h2 => ?_⟩
 ·rw [<- hq1] at hk
  have := h.rat i q k hq hk
  exact ⟨by rintro rfl; omega, by omega⟩
 ·rw [<- hq1] at h1 h3
  refine ⟨roN ro (2 * i + 4) (.slice a' l'.length c'), ?_, ⟨_, _, _, _, _, h.newAttrs hi hq h1 h2 h3⟩, fun k hk => roN_from (by omega) (fun b hb => h.rat i q b hq hb) h3 hk⟩
  exact Turn.setCell (A := fun b => ro b ≠ 0) ⟨h1.os, h1.tape, h1.output, h1.size, fun k hk' hne => h1.block k hk' (fun e => hne (by rw [h.rat i q k hq e.symm]; omega))⟩ (p := ⟨g, _, none⟩) (by show ro g ≠ 0; omega) _
 ·rw [<- hq1] at h1 h2
  refine ⟨⟨h1.os, h1.tape, h1.output, h1.size, fun k hk' hne => h1.block k hk' (fun e => hne (by rw [h.rat i q k hq e.symm]; omega))⟩, ⟨_, _, _, _, _, h.inAttrs hi hq h1 h2⟩, fun k hk => .inl hk⟩
theorem AttAt.below {w W : World} {ro : Nat -> Nat} {db : Nat} {D : Dc} {i : Nat} {s : Sl} {g scap : Nat} {aa : Option Addr} {ac : Nat} (h : AttAt w ro db D i s g scap aa ac) (hb : Below w.heap.size w W) :
  W.cell? ⟨g, i * 8 + 4, none⟩ = some (.slice aa s.attrs.length ac) /\ W.frozen? ⟨g, i * 8 + 4, none⟩ = false /\ W.ownsRow 0 124 2 (.slice aa s.attrs.length ac) s.attrs.length (attrCells s.attrs) :=
 ⟨(hb.cell (p := ⟨g, _, none⟩) h.lt).trans h.cell, (hb.frozen (p := ⟨g, _, none⟩) h.lt).trans h.fz, own_of_block h.own (fun k hk => hb.block k (own_block_lt h.own k hk).2)⟩
theorem pdropA_any (w : World) (ro : Nat -> Nat) (db : Nat) (D : Dc) (h : Nat) (nm : ByteArray) (hd : PDoc w ro db D) (hw : WF D) (hh : h < 18446744073709551616) :
  Calls Tryz.prog 157 #[.pointer (some ⟨db, 0, none⟩), .int .u64 (h : Int), .string nm] w (PPost w ro db (dropD D h nm).1 (dropD D h nm).2) := by
 have hv := hd.view
 have HD := hid hd
 cases ha : atI D.S h with
 | none =>
  have e1 : dropD D h nm = (D, 8) := by simp only [dropD, ha]
  rw [e1]
  have hc := findKind_none w _ db D h 1 hv hw.fits hh ha
  clear hd ha e1 hv
  go_enter Tryz.func157, Tryz.ntmps157
  go_wp2_with fail
  refine hc.mono ?_
  rintro e w1 ⟨rfl, hb1⟩
  have HB1 := hid hb1
  clear hb1 hc
  go_wp2
  go_ret
  exact ppost_same HD.out HB1.out
 | some i =>
  obtain ⟨s, hs, -⟩ := atI_some ha
  obtain ⟨g, scap, aa, ac, hat⟩ := att_at hd hs
  have hc := findKind_some w _ db D h i s 1 hv hw.fits hh ha hs g 0 scap hat.hd
  rw [Nat.zero_add] at hc
  by_cases hk : s.kind = 1
  ·rw [if_pos hk] at hc
   obtain ⟨hso, hl32⟩ := hw.sort ha hs hk
   have hidx := has_idx hso nm
   have HAT := hid hat
   have HSO := hid hso
   obtain ⟨k, Hk⟩ : ∃ k, Hid (lowN s.attrs nm = k) := ⟨_, rfl⟩
   have hfa : ∀ W, Below w.heap.size w W -> Calls Tryz.prog 165 #[.slice aa s.attrs.length ac, .string nm] W fun e w' => e = .returned (.tuple #[.int .i64 (k : Int), .bool (hasN s.attrs nm)]) /\ Below W.heap.size W w' := fun W hb => by
    obtain ⟨d1, d2, d3⟩ := HAT.out.below hb
    obtain ⟨xa, xc, e, _, hr⟩ := attrs_row' (R := fun b => b < W.heap.size) d3 (fun b hb' => (own_block_lt d3 b hb').2)
    cases e
    exact findAttr_any W _ aa s.attrs ac nm s.attrs.length k rfl (by omega) hr (fun b hb' => hb') HSO.out Hk.out
   cases hh2 : hasN s.attrs nm with
   | false =>
    rw [hh2] at hidx hfa
    have e1 : dropD D h nm = (D, 35) := by simp only [dropD, ha, hs, hk, if_true, hidx, Bool.false_eq_true, if_false]
    rw [e1]
    clear hd hv ha hs hk hat hso hidx hh2
    go_enter Tryz.func157, Tryz.ntmps157
    go_wp2_with fail
    refine hc.mono ?_
    rintro e w1 ⟨rfl, hb1⟩
    have HB1 := hid hb1
    obtain ⟨d1, d2, d3⟩ := HAT.out.below hb1
    have hf1 := hfa w1 hb1
    clear hb1 hc hfa d3
    go_wp2_with fail
    refine hf1.mono ?_
    rintro e w2 ⟨rfl, hb2⟩
    have HB2 := hid (HB1.out.trans (hb2.mono HB1.out.size))
    clear hb2 hf1 d1 d2
    go_wp2
    go_ret
    exact ppost_same HD.out HB2.out
   | true =>
    rw [hh2] at hidx hfa
    rw [if_pos rfl, Hk.out] at hidx
    have e1 : dropD D h nm = ({ D with S := D.S.set i { s with attrs := s.attrs.take k ++ s.attrs.drop (k + 1) } }, 0) := by simp only [dropD, ha, hs, hk, if_true, hidx]
    rw [e1]
    have hkl : k < s.attrs.length := by
     rw [List.findIdx?_eq_some_iff_getElem] at hidx
     exact hidx.1
    have hk8 : (k : Int) < 32 := by omega
    clear hd hv ha hs hk hat hso hidx hh2
    go_enter Tryz.func157, Tryz.ntmps157
    go_wp2_with fail
    refine hc.mono ?_
    rintro e w1 ⟨rfl, hb1⟩
    have HB1 := hid hb1
    obtain ⟨d1, d2, d3⟩ := HAT.out.below hb1
    have hf1 := hfa w1 hb1
    clear hb1 hc hfa d3
    go_wp2_with fail
    refine hf1.mono ?_
    rintro e w2 ⟨rfl, hb2⟩
    have HB2 := hid (HB1.out.trans (hb2.mono HB1.out.size))
    clear hb2 hf1 d1 d2
    obtain ⟨d1, d2, d3⟩ := HAT.out.below HB2.out
    have hdl := A.delete_any w2 0 aa s.attrs.length ac k (attrCells s.attrs) d3 (attrCells_one _) (by omega) hkl
    have hgn : ∀ k, (Value.slice aa s.attrs.length ac).ownBlock = some k -> k ≠ g := fun k hk => (HAT.out.ne k hk).1
    have hgl : g < w2.heap.size := Nat.lt_of_lt_of_le HAT.out.lt HB2.out.size
    have HFin : Hid (∀ w3, w3.ownsRow 0 124 2 (.slice aa (s.attrs.length - 1) ac) (s.attrs.length - 1) ((attrCells s.attrs).take (k * 2) ++ (attrCells s.attrs).drop ((k + 1) * 2)) -> w2.grownBy w3 (Value.slice aa s.attrs.length ac).ownBlock ->
      w3.cell? ⟨g, i * 8 + 4, none⟩ = some (.slice aa s.attrs.length ac) /\ w3.frozen? ⟨g, i * 8 + 4, none⟩ = false /\ ∃ ro', PE w ro db { D with S := D.S.set i { s with attrs := s.attrs.take k ++ s.attrs.drop (k + 1) } } (w3.setCell ⟨g, i * 8 + 4, none⟩ (.slice aa (s.attrs.length - 1) ac)) ro') := fun w3 k1 k2 => by
     have hbk := k2.block g hgl (fun e => hgn g e.symm rfl)
     have hlen : (s.attrs.take k ++ s.attrs.drop (k + 1)).length = s.attrs.length - 1 := by simp; omega
     refine ⟨(World.cell?_of_block (w := w2) (a := ⟨g, i * 8 + 4, none⟩) hbk).trans d1, (World.frozen?_of_block (w := w2) (a := ⟨g, i * 8 + 4, none⟩) hbk).trans d2, ?_⟩
     have := HAT.out.put w3 (s.attrs.take k ++ s.attrs.drop (k + 1)) aa ac (grown_of HB2.out k2) (by rw [hlen, attrCells_app, attrCells_take, attrCells_drop]; exact k1) (fun j hj => .inl (by
      cases aa with
      | none => exact hj
      | some ad => exact hj))
     rw [hlen] at this
     exact this
    clear d2 d3 hgn
    go_wp2_with fail
    refine hdl.mono ?_
    rintro e w3 ⟨rfl, k1, k2⟩
    obtain ⟨c3, f3, ro3, p3⟩ := HFin.out w3 k1 k2
    have HP3 := hid p3
    clear hdl k1 k2 p3 HFin d1
    go_wp2
    go_ret
    exact HP3.out.post
  ·rw [if_neg hk] at hc
   have e1 : dropD D h nm = (D, 30) := by simp [dropD, ha, hs, hk]
   rw [e1]
   clear hd hat hv ha e1 hs hk
   go_enter Tryz.func157, Tryz.ntmps157
   go_wp2_with fail
   refine hc.mono ?_
   rintro e w1 ⟨rfl, hb1⟩
   have HB1 := hid hb1
   clear hb1 hc
   go_wp2
   go_ret
   exact ppost_same HD.out HB1.out
end Go.Proofs.YtjkgjckkglfokaaGreat.Gr
