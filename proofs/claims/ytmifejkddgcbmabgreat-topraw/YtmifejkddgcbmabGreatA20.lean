/- An attribute, as the reader reads it. -/
import Derived.Test.YtmifejkddgcbmabGreatA19
import Derived.Sort.Walk0
namespace Go.Proofs.YtmifejkddgcbmabGreat
open Go.RowKit
set_option linter.unusedVariables false
set_option linter.unusedSimpArgs false

def encA (a : Att) : List Value := [.string a.1, .string a.2]

set_option maxRecDepth 100000 in
theorem attrEq_any (w : World) (x : Att) (c : Nat) (nm : ByteArray) (hc : w.cell? ⟨c, 0, none⟩ = some (.string nm)) (hcl : c < w.heap.size) :
    Calls Tryz.prog 122 #[.agg #[.string x.1, .string x.2], .pointer (some ⟨c, 0, none⟩)] w fun e w' => e = .returned (.bool (x.1.toList == nm.toList)) ∧ Below w.heap.size w w' := by
  have h1 : (w.alloc (.cells #[.string x.1, .string x.2] 84)).cell? ⟨c, 0, none⟩ = some (.string nm) := by
    rw [World.cell?_of_block (w := w) (a := ⟨c, 0, none⟩) (Below.heap_alloc _ _ _ hcl)]; exact hc
  obtain ⟨x1, x2⟩ := x
  simp only at h1 ⊢
  cases hz : (x1.toList == nm.toList)
  · go_enter Tryz.func122, Tryz.ntmps122
    go_wp2
    go_ret
    exact ⟨rfl, below_new w _⟩
  · go_enter Tryz.func122, Tryz.ntmps122
    go_wp2
    go_ret
    exact ⟨rfl, below_new w _⟩

set_option maxRecDepth 100000 in
theorem idxFunc_none (w : World) (a : Option Addr) (cap : Nat) (f : Value) : Calls Tryz.prog 141 #[.slice a 0 cap, f] w fun e w' => e = .returned (.int .i64 (-1)) ∧ Below w.heap.size w w' := by
  go_enter Tryz.func141, Tryz.ntmps141
  go_wp2
  go_loopw [8] (fun v wr => v = .int .i64 0 ∧ wr = w) (fun _ _ => 0)
  case atStart => exact ⟨rfl, rfl⟩
  case round =>
    obtain ⟨rfl, hw⟩ := hrel
    obtain rfl := hw.symm
    go_wp2
    go_ret
    exact ⟨rfl, Below.refl _ _⟩

set_option maxRecDepth 100000 in
theorem contains_none (w : World) (a : Option Addr) (cap : Nat) (f : Value) : Calls Tryz.prog 121 #[.slice a 0 cap, f] w fun e w' => e = .returned (.bool false) ∧ Below w.heap.size w w' := by
  have hi := idxFunc_none w a cap f
  go_enter Tryz.func121, Tryz.ntmps121
  go_wp2_with fail
  refine hi.mono ?_
  rintro e w1 ⟨rfl, hb⟩
  go_wp2
  go_ret
  exact ⟨rfl, hb⟩

/-- Whether a name stands among attributes. -/
theorem contains_any (w : World) (R : Nat → Prop) (la : Option Addr) (lcap : Nat) (L : List Att) (hL : AttrsR w R la L) (hR : ∀ k, R k → k < w.heap.size) (hn : L.length ≤ 32) (c : Nat) (nm : ByteArray) (hc : w.cell? ⟨c, 0, none⟩ = some (.string nm)) (hcl : c < w.heap.size) :
    Calls Tryz.prog 121 #[.slice la L.length lcap, .func (.func 122) #[] #[.pointer (some ⟨c, 0, none⟩)]] w fun e w' => e = .returned (.bool (L.any fun x => x.1.toList == nm.toList)) ∧ Below w.heap.size w w' := by
  cases L with
  | nil => exact contains_none w la lcap _
  | cons x r =>
    obtain ⟨g, o, rfl, hg, -, -⟩ := hL 0 x rfl
    have eg : ∀ args w, (callFunc 122 args).run Tryz.prog w = .ok (.enter 122 args) w := enters_of Tryz.func122 (by kernel_rfl) rfl
    have hp : PredBelow Tryz.prog 122 #[.pointer (some ⟨c, 0, none⟩)] (fun x : Att => .agg (encA x).toArray) (fun x => x.1.toList == nm.toList) w := by
      intro W y hb
      refine (attrEq_any W y c nm ((hb.cell (p := ⟨c, 0, none⟩) hcl).trans hc) (Nat.lt_of_lt_of_le hcl hb.size)).mono ?_
      rintro e w' ⟨he, hb'⟩
      exact ⟨he, hb.trans (hb'.mono hb.size)⟩
    have := AnyQ.slices_ContainsFunc Tryz.lcont 2 Tryz.isAgg84 Tryz.sizeOf84 encA (fun _ => rfl) (fun x => x.1.toList == nm.toList) 122 #[.pointer (some ⟨c, 0, none⟩)] eg g o (x :: r).length lcap (x :: r) w hp (Nat.le_refl _) (by omega) (hR g hg) (by
      intro j hj i v hv
      obtain ⟨p, hpj⟩ : ∃ p, (x :: r)[j]? = some p := ⟨_, List.getElem?_eq_getElem hj⟩
      obtain ⟨g', o', e', -, c1, c2⟩ := hL j p hpj
      cases e'
      have e2 : (x :: r)[j]! = p := by rw [List.getElem!_eq_getElem?_getD, hpj]; rfl
      rw [e2] at hv
      rcases i with _ | _ | i
      · cases hv; exact c1
      · cases hv; exact c2
      · simp [encA] at hv)
    rw [List.take_length] at this
    exact this

end Go.Proofs.YtmifejkddgcbmabGreat

/- An attribute, as the reader reads it. -/
namespace Go.Proofs.YtmifejkddgcbmabGreat
open Go.RowKit
set_option linter.unusedVariables false
set_option linter.unusedSimpArgs false

theorem Rd.alloc {w : World} {b : Nat} {tx : ByteArray} {s : St} (h : Rd w b tx s) (o : Obj) : Rd (w.alloc o) b tx s := h.below (below_new w o) h.facts.2.2.2.2.2.2.2
theorem Turn.ofAlloc {A : Nat → Prop} {w w' : World} {o : Obj} (h : Turn A (w.alloc o) w') : Turn A w w' := ⟨h.os, h.tape, h.output, Nat.le_trans (by simp) h.size, fun k hk ha => (h.block k (by simp; omega) ha).trans (Below.heap_alloc _ _ _ hk)⟩

set_option maxRecDepth 100000 in
set_option maxHeartbeats 1000000 in
theorem attr_any (w : World) (b : Nat) (tx : ByteArray) (s : St) (h : Rd w b tx s) (ok : Ok tx s) (R : Nat → Prop) (la : Option Addr) (lcap : Nat) (L : List Att) (hL : AttrsR w R la L) (hR : ∀ k, R k → k < w.heap.size ∧ k ≠ b) (hn : L.length ≤ 32) :
    Calls Tryz.prog 99 #[.pointer (some ⟨b, 0, none⟩), .slice la L.length lcap] w (Post w b tx (· = b) (attrP tx.data.toList L s) fun a e w' => e = .returned (.agg #[.string a.1, .string a.2])) := by
  have HOK : Hid (Ok tx s) := ok
  have hnm := rname_any' _ b tx s (h.alloc (.cells #[.string ⟨#[]⟩, .string ⟨#[]⟩] 84)) ok
  have hfl := fun W (p : Nat) (e : Int) => fail_any W (.pointer (some ⟨b, 0, none⟩)) p e
  have HR0 := h.alloc (.cells #[.string ⟨#[]⟩, .string ⟨#[]⟩] 84)
  obtain ⟨h0, h1, h2, h3, f1, f2, f3, hb⟩ := HR0.facts
  have HL : Hid (AttrsR w R la L) := hL
  have HRR : Hid (∀ k, R k → k < w.heap.size ∧ k ≠ b) := hR
  have hbw := h.facts.2.2.2.2.2.2.2
  clear h ok HR0 hL hR
  cases hx1 : nameP tx.data.toList s with
  | inr q_ =>
    obtain ⟨p, c⟩ := q_
    rw [hx1] at hnm
    have HG : Hid (attrP tx.data.toList L s = .inr (p, c)) := by show attrP _ _ _ = _; unfold attrP; rw [hx1]
    clear hx1
    go_enter Tryz.func99, Tryz.ntmps99
    go_wp2_with fail
    refine hnm.mono ?_
    rintro e w1 ⟨rfl, ht⟩
    exact ⟨rfl, Post.no HG.out ht.ofAlloc⟩
  | inl q_ =>
    obtain ⟨n, s1⟩ := q_
    rw [hx1] at hnm
    have HK1 : Hid (Ok tx s1) := HOK.out.name hx1
    have HG1 : Hid (attrP tx.data.toList L s = if L.length = 32 then .inr (s.at_, 2) else if L.any (fun x => x.1.toList == (ba n).toList) then .inr (s.at_, 41) else match expectP tx.data.toList 61 s1 with
      | .inr (p, e) => .inr (p, e)
      | .inl (_, s2) => match valueP tx.data.toList s2 with
        | .inr (p, e) => .inr (p, e)
        | .inl (v, s3) => .inl ((ba n, ba v), s3)) := by
      show attrP _ _ _ = _
      unfold attrP
      rw [hx1]
      simp only
      split
      · rfl
      · split
        · rfl
        · cases expectP tx.data.toList 61 s1 with
          | inr q_ => obtain ⟨p, e⟩ := q_; rfl
          | inl q_ => obtain ⟨u2, s2⟩ := q_; simp only; cases valueP tx.data.toList s2 <;> rfl
    clear hx1
    go_enter Tryz.func99, Tryz.ntmps99
    go_wp2_with fail
    refine hnm.mono ?_
    rintro e w1 ⟨rfl, hr1, ht1⟩
    have HT1 : Hid (Turn (fun x => x = b) w w1) := ht1.ofAlloc
    have HR1 : Hid (Rd w1 b tx s1) := hr1
    have HC1 : Hid (w1.heap[w.heap.size]? = some (.cells #[.string ⟨#[]⟩, .string ⟨#[]⟩] 84 (0, 0))) := by
      show _ = _
      rw [ht1.block w.heap.size (by simp) (by omega)]
      exact heap_alloc_new w _
    have hs1 : w.heap.size < w1.heap.size := Nat.lt_of_lt_of_le (by simp) ht1.size
    clear hnm hr1 ht1 h0 h1 h2 h3 f1 f2 f3
    by_cases hl : L.length = 32
    · have HG : Hid (attrP tx.data.toList L s = .inr (s.at_, 2)) := by show attrP _ _ _ = _; rw [HG1.out, if_pos hl]
      have t1 : ((L.length : Int) == 32) = true := by rw [hl]; rfl
      clear hl HG1
      go_wp2_with fail
      refine (hfl _ _ _).mono ?_
      rintro e w2 ⟨rfl, rfl⟩
      exact ⟨rfl, Post.no HG.out (HT1.out.alloc _)⟩
    · have t1 : ((L.length : Int) == 32) = false := by simp; omega
      have HL2 : AttrsR (w1.alloc (.cells #[.string (ba n), .string ⟨#[]⟩] 84)) R la L := HL.out.to (fun _ h => h) (fun k o hk => by
        have hk2 := HRR.out k hk
        rw [World.cell?_of_block (w := w1) (a := ⟨k, o, none⟩) (Below.heap_alloc _ _ _ (by show k < _; omega)), World.cell?_of_block (w := w) (a := ⟨k, o, none⟩) (HT1.out.block k hk2.1 hk2.2)])
      have hcon := contains_any (w1.alloc (.cells #[.string (ba n), .string ⟨#[]⟩] 84)) R la lcap L HL2 (fun k hk => by have := HRR.out k hk; simp; omega) hn w1.heap.size (ba n) ((isCells_new w1 _ _).cell 0) (by simp)
      have HT2 : Hid (Turn (fun x => x = b) w (w1.alloc (.cells #[.string (ba n), .string ⟨#[]⟩] 84))) := HT1.out.alloc _
      have HR2 : Hid (Rd (w1.alloc (.cells #[.string (ba n), .string ⟨#[]⟩] 84)) b tx s1) := HR1.out.alloc _
      have HCc : Hid ((w1.alloc (.cells #[.string (ba n), .string ⟨#[]⟩] 84)).heap[w1.heap.size]? = some (.cells #[.string (ba n), .string ⟨#[]⟩] 84 (0, 0))) := heap_alloc_new w1 _
      have HC2 : Hid ((w1.alloc (.cells #[.string (ba n), .string ⟨#[]⟩] 84)).heap[w.heap.size]? = some (.cells #[.string ⟨#[]⟩, .string ⟨#[]⟩] 84 (0, 0))) := by
        show _ = _
        rw [Below.heap_alloc _ _ _ hs1]; exact HC1.out
      have hcsz : w1.heap.size < (w1.alloc (.cells #[.string (ba n), .string ⟨#[]⟩] 84)).heap.size := by simp
      have hrb : b < (w1.alloc (.cells #[.string (ba n), .string ⟨#[]⟩] 84)).heap.size := by simp; omega
      cases hany : L.any (fun x => x.1.toList == (ba n).toList)
      · rw [hany] at hcon
        have HG2 : Hid (attrP tx.data.toList L s = match expectP tx.data.toList 61 s1 with
            | .inr (p, e) => .inr (p, e)
            | .inl (_, s2) => match valueP tx.data.toList s2 with
              | .inr (p, e) => .inr (p, e)
              | .inl (v, s3) => .inl ((ba n, ba v), s3)) := by show attrP _ _ _ = _; rw [HG1.out, if_neg hl, hany]; rfl
        clear hl HG1 hany HL2 HC1 HR1 HT1
        go_wp2_with fail
        refine hcon.mono ?_
        rintro e w3 ⟨rfl, hb3⟩
        have HT3 : Hid (Turn (fun x => x = b) w w3) := HT2.out.then hb3 HT2.out.size
        have hr3 : Rd w3 b tx s1 := HR2.out.below hb3 hrb
        have HCc3 : Hid (w3.heap[w1.heap.size]? = some (.cells #[.string (ba n), .string ⟨#[]⟩] 84 (0, 0))) := (hb3.block _ hcsz).trans HCc.out
        have HC3 : Hid (w3.heap[w.heap.size]? = some (.cells #[.string ⟨#[]⟩, .string ⟨#[]⟩] 84 (0, 0))) := (hb3.block _ (by omega)).trans HC2.out
        have hex := expect_any w3 b tx s1 hr3 HK1.out 61
        have hs3 : w1.heap.size < w3.heap.size := Nat.lt_of_lt_of_le hcsz hb3.size
        clear hcon hb3 hr3 HCc HC2 HR2 HT2 hcsz hrb
        cases hx4 : expectP tx.data.toList 61 s1 with
        | inr q_ =>
          obtain ⟨p, c⟩ := q_
          rw [hx4] at hex
          have HG : Hid (attrP tx.data.toList L s = .inr (p, c)) := by show attrP _ _ _ = _; rw [HG2.out, hx4]
          clear hx4
          go_wp2_with fail
          refine hex.mono ?_
          rintro e w4 ⟨rfl, ht⟩
          exact ⟨rfl, Post.no HG.out (HT3.out.trans ht)⟩
        | inl q_ =>
          obtain ⟨u4, s4⟩ := q_
          rw [hx4] at hex
          have HK4 : Hid (Ok tx s4) := HK1.out.expect hx4
          have HG4 : Hid (attrP tx.data.toList L s = match valueP tx.data.toList s4 with
              | .inr (p, e) => .inr (p, e)
              | .inl (v, s3) => .inl ((ba n, ba v), s3)) := by show attrP _ _ _ = _; rw [HG2.out, hx4]
          clear hx4 HG2
          go_wp2_with fail
          refine hex.mono ?_
          rintro e w4 ⟨⟨rfl, -⟩, hr4, ht4⟩
          have HT4 : Hid (Turn (fun x => x = b) w w4) := HT3.out.trans ht4
          have HCc4 : Hid (w4.heap[w1.heap.size]? = some (.cells #[.string (ba n), .string ⟨#[]⟩] 84 (0, 0))) := (ht4.block _ hs3 (by omega)).trans HCc3.out
          have HC4 : Hid (w4.heap[w.heap.size]? = some (.cells #[.string ⟨#[]⟩, .string ⟨#[]⟩] 84 (0, 0))) := (ht4.block _ (by omega) (by omega)).trans HC3.out
          have hs4 : w1.heap.size < w4.heap.size := Nat.lt_of_lt_of_le hs3 ht4.size
          have hva := value_any w4 b tx s4 hr4 HK4.out
          clear hex hr4 ht4 HCc3 HC3 HT3
          cases hx5 : valueP tx.data.toList s4 with
          | inr q_ =>
            obtain ⟨p, c⟩ := q_
            rw [hx5] at hva
            have HG : Hid (attrP tx.data.toList L s = .inr (p, c)) := by show attrP _ _ _ = _; rw [HG4.out, hx5]
            clear hx5
            go_wp2_with fail
            refine hva.mono ?_
            rintro e w5 ⟨rfl, ht⟩
            exact ⟨rfl, Post.no HG.out (HT4.out.trans ht)⟩
          | inl q_ =>
            obtain ⟨v, s5⟩ := q_
            rw [hx5] at hva
            have HG : Hid (attrP tx.data.toList L s = .inl ((ba n, ba v), s5)) := by show attrP _ _ _ = _; rw [HG4.out, hx5]
            clear hx5 HG4
            go_wp2_with fail
            refine hva.mono ?_
            rintro e w5 ⟨rfl, hr5, ht5⟩
            have HT5 : Hid (Turn (fun x => x = b) w w5) := HT4.out.trans ht5
            have HCc5 : Hid (w5.heap[w1.heap.size]? = some (.cells #[.string (ba n), .string ⟨#[]⟩] 84 (0, 0))) := (ht5.block _ hs4 (by omega)).trans HCc4.out
            have HC5 : Hid (w5.heap[w.heap.size]? = some (.cells #[.string ⟨#[]⟩, .string ⟨#[]⟩] 84 (0, 0))) := (ht5.block _ (by omega) (by omega)).trans HC4.out
            have HR5 : Hid (Rd w5 b tx s5) := hr5
            clear hva hr5 ht5 HCc4 HC4 HT4
            have fz1 : w5.frozen? ⟨w1.heap.size, 1, none⟩ = false := by simp [World.frozen?, HCc5.out]
            have fz2 : w5.frozen? ⟨w.heap.size, 0, none⟩ = false := by simp [World.frozen?, HC5.out]
            have fz3 : w5.frozen? ⟨w.heap.size, 1, none⟩ = false := by simp [World.frozen?, HC5.out]
            have c1 : w5.cell? ⟨w1.heap.size, 0, none⟩ = some (.string (ba n)) := by simp [World.cell?, HCc5.out]
            have c2 : w5.cell? ⟨w1.heap.size, 1, none⟩ = some (.string ⟨#[]⟩) := by simp [World.cell?, HCc5.out]
            have c3 : w5.cell? ⟨w.heap.size, 0, none⟩ = some (.string ⟨#[]⟩) := by simp [World.cell?, HC5.out]
            have c4 : w5.cell? ⟨w.heap.size, 1, none⟩ = some (.string ⟨#[]⟩) := by simp [World.cell?, HC5.out]
            have hne : w.heap.size ≠ w1.heap.size := by omega
            have hne' : w1.heap.size ≠ w.heap.size := by omega
            go_wp2
            have HR6 : Rd (((w5.setCell ⟨w1.heap.size, 1, none⟩ (.string (ba v))).setCell ⟨w.heap.size, 0, none⟩ (.string (ba n))).setCell ⟨w.heap.size, 1, none⟩ (.string (ba v))) b tx s5 := by
              refine HR5.out.of_block ?_ ?_
              · rw [Below.heap_setCell _ _ _ _ (by show b ≠ w.heap.size; omega), Below.heap_setCell _ _ _ _ (by show b ≠ w.heap.size; omega), Below.heap_setCell _ _ _ _ (by show b ≠ w1.heap.size; omega)]
              · rw [Below.heap_setCell _ _ _ _ (by show 0 ≠ w.heap.size; omega), Below.heap_setCell _ _ _ _ (by show 0 ≠ w.heap.size; omega), Below.heap_setCell _ _ _ _ (by show 0 ≠ w1.heap.size; omega)]
            have HT6 : Turn (fun x => x = b) w (((w5.setCell ⟨w1.heap.size, 1, none⟩ (.string (ba v))).setCell ⟨w.heap.size, 0, none⟩ (.string (ba n))).setCell ⟨w.heap.size, 1, none⟩ (.string (ba v))) :=
              ((HT5.out.setNew (p := ⟨w1.heap.size, 1, none⟩) (by show _ ≤ w1.heap.size; omega) _).setNew (p := ⟨w.heap.size, 0, none⟩) (Nat.le_refl _) _).setNew (p := ⟨w.heap.size, 1, none⟩) (Nat.le_refl _) _
            exact bodyPost_ret (v := .agg #[.string (ba n), .string (ba v)]) (by simp [results, Tryz.results99, go_sem, c3, c4]) rfl (Post.yes HG.out rfl HR6 HT6)
      · rw [hany] at hcon
        have HG2 : Hid (attrP tx.data.toList L s = .inr (s.at_, 41)) := by show attrP _ _ _ = _; rw [HG1.out, if_neg hl, hany]; rfl
        clear hl HG1 hany HL2
        go_wp2_with fail
        refine hcon.mono ?_
        rintro e w3 ⟨rfl, hb3⟩
        have HT3 : Hid (Turn (fun x => x = b) w w3) := HT2.out.then hb3 HT2.out.size
        clear hcon hb3
        go_wp2_with fail
        refine (hfl _ _ _).mono ?_
        rintro e w4 ⟨rfl, rfl⟩
        exact ⟨rfl, Post.no HG2.out HT3.out⟩

end Go.Proofs.YtmifejkddgcbmabGreat

/- Attributes by their names: the one order there is; the library's sort of a row of them. -/
namespace Go.Proofs.YtmifejkddgcbmabGreat
open Go.RowKit Go.Shelf Go.Lib Go.Sort
set_option linter.unusedVariables false
set_option linter.unusedSimpArgs false

theorem uniq_sorted {α : Type} {lt : α → α → Prop} (irr : ∀ x, ¬ lt x x) (asym : ∀ x y, lt x y → ¬ lt y x) : ∀ (L1 L2 : List α), L1.Perm L2 → L1.Pairwise lt → L2.Pairwise lt → L1 = L2
  | [], L2, hp, _, _ => (List.Perm.nil_eq hp)
  | a :: r, [], hp, _, _ => by have := hp.length_eq; simp at this
  | a :: r, b :: s, hp, h1, h2 => by
    have hab : a = b := by
      have ha : a ∈ b :: s := hp.mem_iff.1 (List.mem_cons_self ..)
      have hb : b ∈ a :: r := hp.mem_iff.2 (List.mem_cons_self ..)
      rcases List.mem_cons.1 ha with e | e
      · exact e
      · rcases List.mem_cons.1 hb with e' | e'
        · exact e'.symm
        · exact absurd ((List.pairwise_cons.1 h2).1 a e) (asym _ _ ((List.pairwise_cons.1 h1).1 b e'))
    subst hab
    rw [uniq_sorted irr asym r s (List.Perm.cons_inv hp) (List.pairwise_cons.1 h1).2 (List.pairwise_cons.1 h2).2]

theorem ltA_eq (a b : Att) : ltA a b = decide (a.1.toList < b.1.toList) := by unfold ltA; exact bytesLess_eq _ _
/-- No two of one name. -/
def Dist (L : List Att) : Prop := L.Pairwise fun a b => a.1.toList ≠ b.1.toList

theorem ltA_irr (a : Att) : ¬ ltA a a = true := by rw [ltA_eq]; simp [List.lt_irrefl]
theorem ltA_asym (a b : Att) (h : ltA a b = true) : ¬ ltA b a = true := by
  rw [ltA_eq] at *
  simp only [decide_eq_true_eq] at *
  exact List.lt_asymm h
theorem ltA_tri {a b : Att} (h : a.1.toList ≠ b.1.toList) (h2 : ltA b a = false) : ltA a b = true := by
  rw [ltA_eq] at *
  simp only [decide_eq_true_eq, decide_eq_false_iff_not] at *
  exact Decidable.byContradiction fun hn => h (List.le_antisymm (List.not_lt.1 h2) (List.not_lt.1 hn))
theorem sortA_perm (L : List Att) : (sortA L).Perm L := List.mergeSort_perm _ _
theorem Dist.perm {L M : List Att} (h : Dist L) (hp : L.Perm M) : Dist M := hp.pairwise h (fun h => Ne.symm h)
theorem sortA_strict {L : List Att} (h : Dist L) : (sortA L).Pairwise fun a b => ltA a b = true := by
  have hs := List.pairwise_mergeSort (le := fun a b => !(ltA b a)) (l := L) (fun a b c h1 h2 => by
    simp only [Bool.not_eq_true', ltA_eq, decide_eq_false_iff_not, List.not_lt] at *
    exact List.le_trans h1 h2) (fun a b => by
    simp only [Bool.or_eq_true, Bool.not_eq_true', ltA_eq, decide_eq_false_iff_not, List.not_lt]
    exact List.le_total _ _)
  have hd : Dist (sortA L) := h.perm (sortA_perm L).symm
  refine (hd.and hs).imp ?_
  rintro a b ⟨h1, h2⟩
  exact ltA_tri h1 (by simpa using h2)
/-- A row in order, of the same: it is the one. -/
theorem sortA_of {L M : List Att} (h : Dist L) (hp : M.Perm L) (hs : ∀ i j, i < j → j < M.length → ltA M[j]! M[i]! = false) : M = sortA L := by
  have hd : Dist M := h.perm hp.symm
  refine uniq_sorted ltA_irr ltA_asym _ _ (hp.trans (sortA_perm L).symm) ?_ (sortA_strict h)
  rw [List.pairwise_iff_getElem]
  intro i j hi hj hij
  have h1 := hs i j hij hj
  rw [getElem!_pos M i hi, getElem!_pos M j hj] at h1
  exact ltA_tri ((List.pairwise_iff_getElem.1 hd) i j hi hj hij) h1

set_option maxRecDepth 100000 in
theorem isNaN_any (w : World) (x : ByteArray) : Calls Tryz.prog 120 #[.string x] w fun e w' => e = .returned (.bool false) ∧ w' = w := by
  have t1 : (x.toList == x.toList) = true := by simp
  go_enter Tryz.func120, Tryz.ntmps120
  go_wp2
  go_ret
  exact ⟨rfl, rfl⟩

/-- What cmp.Compare tells of two texts. -/
def cmpS (x y : ByteArray) : Int := if Op.bytesLess x.toList y.toList then -1 else if x.toList == y.toList then 0 else 1

set_option maxRecDepth 100000 in
theorem compare_any (w : World) (x y : ByteArray) : Calls Tryz.prog 98 #[.string x, .string y] w fun e w' => e = .returned (.int .i64 (cmpS x y)) ∧ w' = w := by
  have h1 := fun W => isNaN_any W x
  have h2 := fun W => isNaN_any W y
  unfold cmpS
  cases hl : Op.bytesLess x.toList y.toList <;> cases he : (x.toList == y.toList) <;> (
    go_enter Tryz.func98, Tryz.ntmps98
    go_wp2_with fail
    refine (h1 _).mono ?_
    rintro e w1 ⟨rfl, hw1⟩
    obtain rfl := hw1.symm
    go_wp2_with fail
    refine (h2 _).mono ?_
    rintro e w1 ⟨rfl, hw1⟩
    obtain rfl := hw1.symm
    go_wp2
    go_ret
    exact ⟨rfl, rfl⟩)

set_option maxRecDepth 100000 in
theorem cmpA_any (w : World) (x y : Att) : Calls Tryz.prog 97 #[.agg #[.string x.1, .string x.2], .agg #[.string y.1, .string y.2]] w fun e w' => e = .returned (.int .i64 (cmpS x.1 y.1)) ∧ ∃ q os', w' = grow (w.drewN q) os' := by
  have hc := fun W => compare_any W x.1 y.1
  generalize cmpS x.1 y.1 = r at *
  go_enter Tryz.func97, Tryz.ntmps97
  go_wp2_with fail
  refine (hc _).mono ?_
  rintro e w1 ⟨rfl, hw1⟩
  obtain rfl := hw1.symm
  go_wp2
  go_ret
  exact ⟨rfl, 0, _, by rw [alloc_eq_grow, alloc_eq_grow, grow_grow]; rfl⟩

theorem ltOf_cmp (x y : Att) : ltOf (fun x y : Att => cmpS x.1 y.1) x y = ltA x y := by
  show decide (cmpS x.1 y.1 < 0) = Op.bytesLess x.1.toList y.1.toList
  by_cases h1 : Op.bytesLess x.1.toList y.1.toList = true
  · have e : cmpS x.1 y.1 = -1 := by unfold cmpS; rw [if_pos h1]
    rw [e, h1]; rfl
  · rw [Bool.eq_false_iff.2 h1]
    by_cases h2 : (x.1.toList == y.1.toList) = true
    · have e : cmpS x.1 y.1 = 0 := by unfold cmpS; rw [if_neg h1, if_pos h2]
      rw [e]; rfl
    · have e : cmpS x.1 y.1 = 1 := by unfold cmpS; rw [if_neg h1, if_neg h2]
      rw [e]; rfl

theorem swoA : SWO (ltOf (fun x y : Att => cmpS x.1 y.1)) where
  irrefl x := by rw [ltOf_cmp]; simpa using ltA_irr x
  trans x y z h1 h2 := by
    rw [ltOf_cmp, ltA_eq] at *
    simp only [decide_eq_true_eq] at *
    exact List.lt_trans h1 h2
  ntrans x y z h1 h2 := by
    rw [ltOf_cmp, ltA_eq] at *
    simp only [decide_eq_false_iff_not, List.not_lt] at *
    exact List.le_trans h2 h1

theorem flat_at (L : List Att) (t : Nat) (h : t < L.length * 2) : (attrCells L)[t]? = some ((encA (L.toArray[t / 2]!))[t % 2]!) := by
  have hj : t / 2 < L.length := by omega
  obtain ⟨p, hp⟩ : ∃ p, L[t / 2]? = some p := ⟨_, List.getElem?_eq_getElem hj⟩
  obtain ⟨g1, g2⟩ := attrCells_get L _ p hp
  have e : L.toArray[t / 2]! = p := by
    rw [getElem!_pos L.toArray (t / 2) (by simpa using hj)]
    have := (List.getElem?_eq_some_iff.1 hp).2
    simpa using this
  rw [e]
  rcases Nat.mod_two_eq_zero_or_one t with m | m
  · have ej : t / 2 * 2 = t := by omega
    rw [ej] at g1
    rw [m, g1]; rfl
  · have ej : t / 2 * 2 + 1 = t := by omega
    rw [ej] at g2
    rw [m, g2]; rfl

theorem size_list2 (L : List Att) : L.toArray.size = L.length := by simp

set_option maxHeartbeats 1000000 in
theorem sort_any (w : World) (B : Nat) (L : List Att) (a : Option Addr) (cap : Nat) (ho : w.ownsRow B 84 2 (.slice a L.length cap) L.length (attrCells L)) (hd : Dist L) (hn : L.length ≤ 32) :
    Calls Tryz.prog 96 #[.slice a L.length cap, .func (.func 97) #[] #[]] w fun e w' => e = .returned (.tuple #[]) ∧ w'.ownsRow B 84 2 (.slice a L.length cap) L.length (attrCells (sortA L)) ∧ Turn (fun k => B ≤ k) w w' := by
  rcases ho.2 with ⟨e1, e2⟩ | ⟨g, cap', cur, e1, hg, hh, hc1, hc2, hc3, hc4⟩
  · have hL : L = [] := List.length_eq_zero_iff.1 e2
    subst hL
    refine (AnyF.slices_SortFunc_none Tryz.lsort a cap _ w).mono ?_
    rintro e w' ⟨he, hw⟩
    subst hw
    exact ⟨he, by simpa [sortA] using ho, Turn.refl _ _⟩
  · cases e1
    have eg : ∀ args w, (callFunc 97 args).run Tryz.prog w = .ok (.enter 97 args) w := enters_of Tryz.func97 (by kernel_rfl) rfl
    have hlt := (Array.getElem?_eq_some_iff.1 hh).1
    have hcm : CmpLays Tryz.prog 97 #[] encA 2 (fun x y : Att => cmpS x.1 y.1) g 0 L.toArray.size w := fun _ _ _ _ x y => cmpA_any _ x y
    have hH : HoldsK encA 2 w g 0 L.toArray := by
      intro j hj
      rw [size_flatK, size_list2] at hj
      refine ⟨?_, by simp [World.frozen?, hh]⟩
      rw [get_flatK _ _ _ j (by rw [size_list2]; exact hj)]
      have h1 := flat_at L j hj
      rw [← hc4, List.getElem?_take] at h1
      rw [if_pos hj] at h1
      rw [Array.getElem?_toList] at h1
      simp only [World.cell?, hh, Nat.zero_add]
      exact h1
    have hcon := AnyQ.slices_SortFunc Tryz.lsort 2 Tryz.isAgg84 Tryz.sizeOf84 encA (fun _ => rfl) (fun x v hv => by simp [encA] at hv; rcases hv with rfl | rfl <;> rfl) (fun x y : Att => cmpS x.1 y.1) swoA 97 #[] g 0 cap L.toArray w eg hcm hH hlt (by simp; omega)
    refine hcon.mono ?_
    rintro e w' ⟨he, d', n, os, hp, hs, rfl⟩
    have hsz : d'.size = L.length := by rw [hp.1]; simp
    have hperm : d'.toList.Perm L := by
      have := hp.2.2
      have e3 : d'.extract 0 L.toArray.size = d' := by rw [← hp.1]; simp
      have e4 : L.toArray.extract 0 L.toArray.size = L.toArray := by simp
      rw [e3, e4] at this
      simpa using this
    have hso : d'.toList = sortA L := by
      refine sortA_of hd hperm ?_
      intro i j hij hj
      have := hs i j (Nat.zero_le _) hij (by simpa [hsz] using hj)
      rw [ltOf_cmp] at this
      have hj2 : j < d'.size := by simpa using hj
      rw [getElem!_pos d'.toList j hj, getElem!_pos d'.toList i (by omega)]
      rw [getElem!_pos d' j hj2, getElem!_pos d' i (by omega)] at this
      simpa using this
    have hblk : (sortWorldK encA 2 w g 0 n d' os).heap[g]? = some (.cells (putCells id 0 (flatK encA 2 d') cur) 84 (0, 0)) := by
      have hm : (putRowK encA 2 (Sort.ahead w n) g 0 d').heap[g]? = some (.cells (putCells id 0 (flatK encA 2 d') cur) 84 (0, 0)) := by
        simp [putRowK, putRow, mapBlock, Sort.ahead, Array.getElem?_modify, hh, onCells]
      have hl2 := (Array.getElem?_eq_some_iff.1 hm).1
      simp only [sortWorldK, grow, Array.getElem?_append]
      rw [if_pos hl2]; exact hm
    refine ⟨he, ⟨by rw [attrCells_length, ← hso]; simp [hsz], .inr ⟨g, cap, _, rfl, hg, hblk, hc1, hc2, by simp [putCells, hc3], ?_⟩⟩, ?_⟩
    · rw [← hso]
      apply List.ext_getElem?
      intro t
      rw [List.getElem?_take]
      by_cases ht : t < L.length * 2
      · rw [if_pos ht, flat_at d'.toList t (by simp [hsz]; exact ht)]
        have hcs : t < cur.size := by rw [hc3]; omega
        rw [Array.getElem?_toList]
        unfold putCells
        rw [Array.getElem?_mapIdx, Array.getElem?_eq_getElem hcs]
        simp only [Option.map_some]
        rw [if_pos ⟨Nat.zero_le _, by rw [size_flatK, hsz]; omega⟩, Nat.sub_zero, get_flatK _ _ _ t (by rw [hsz]; exact ht)]
        rfl
      · rw [if_neg ht]
        symm
        rw [List.getElem?_eq_none_iff, attrCells_length]
        simp [hsz]; omega
    · refine ⟨rfl, rfl, rfl, by simp [sortWorldK, grow, putRowK, Sort.ahead], fun k hk ha => ?_⟩
      have hne : g ≠ k := fun e => ha (by rw [← e]; exact hg)
      simp only [sortWorldK, grow, Array.getElem?_append]
      rw [if_pos (by simpa [putRowK, Sort.ahead] using hk)]
      simp [putRowK, putRow, mapBlock, Sort.ahead, Array.getElem?_modify, hne]

end Go.Proofs.YtmifejkddgcbmabGreat
