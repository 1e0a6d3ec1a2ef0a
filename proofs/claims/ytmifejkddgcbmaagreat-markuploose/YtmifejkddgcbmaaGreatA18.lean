/- The sort and the search of the library over attributes, laid at this program's numbers. -/
import Derived.Shelf.SlSortCmp.NoneTotal
import Derived.Shelf.SlicesQ.IndexFunc
import Derived.Test.YtmifejkddgcbmaaGreatProg
import Derived.Test.YtmifejkddgcbmaaGreatA17
namespace Go.Proofs
open Go.Shelf
def Tryz.lsort_ren : Go.Shelf.Ren := ⟨fun | 6 => 110 | 15 => 124 | 14 => 123 | 28 => 144 | 29 => 145 | 20 => 136 | 21 => 137 | 22 => 138 | 23 => 139 | 24 => 140 | 25 => 141 | 26 => 142 | 27 => 143 | 46 => 154 | 47 => 155 | 48 => 156 | 49 => 157 | 50 => 158 | 57 => 162 | n => n, fun | 22 => 38 | 24 => 55 | 25 => 134 | 3 => 3 | 39 => 119 | 0 => 0 | 53 => 154 | 55 => 156 | 4 => 4 | 46 => 147 | 45 => 146 | 50 => 151 | 5 => 5 | 9 => 9 | 66 => 159 | 70 => 68 | 76 => 167 | 77 => 117 | n => n, fun | n => n⟩
theorem Tryz.lsort : Go.Proofs.SlLaysF0.n6 Tryz.prog Tryz.lsort_ren := {
  mixed := by kernel_rfl
  f6 := ⟨Tryz.f110.name, by decide, Tryz.func110.trans (congrArg some (by kernel_rfl))⟩
  f14 := ⟨Tryz.f123.name, by decide, Tryz.func123.trans (congrArg some (by kernel_rfl))⟩
  f15 := Tryz.func124.trans (congrArg some (by kernel_rfl))
  f20 := ⟨Tryz.f136.name, by decide, Tryz.func136.trans (congrArg some (by kernel_rfl))⟩
  f21 := ⟨Tryz.f137.name, by decide, Tryz.func137.trans (congrArg some (by kernel_rfl))⟩
  f22 := ⟨Tryz.f138.name, by decide, Tryz.func138.trans (congrArg some (by kernel_rfl))⟩
  f23 := ⟨Tryz.f139.name, by decide, Tryz.func139.trans (congrArg some (by kernel_rfl))⟩
  f24 := ⟨Tryz.f140.name, by decide, Tryz.func140.trans (congrArg some (by kernel_rfl))⟩
  f25 := ⟨Tryz.f141.name, by decide, Tryz.func141.trans (congrArg some (by kernel_rfl))⟩
  f26 := ⟨Tryz.f142.name, by decide, Tryz.func142.trans (congrArg some (by kernel_rfl))⟩
  f27 := ⟨Tryz.f143.name, by decide, Tryz.func143.trans (congrArg some (by kernel_rfl))⟩
  f28 := Tryz.func144.trans (congrArg some (by kernel_rfl))
  f29 := Tryz.func145.trans (congrArg some (by kernel_rfl))
  f46 := ⟨Tryz.f154.name, by decide, Tryz.func154.trans (congrArg some (by kernel_rfl))⟩
  f47 := Tryz.func155.trans (congrArg some (by kernel_rfl))
  f48 := Tryz.func156.trans (congrArg some (by kernel_rfl))
  f49 := ⟨Tryz.f157.name, by decide, Tryz.func157.trans (congrArg some (by kernel_rfl))⟩
  f50 := ⟨Tryz.f158.name, by decide, Tryz.func158.trans (congrArg some (by kernel_rfl))⟩
  f57 := ⟨Tryz.f162.name, by decide, Tryz.func162.trans (congrArg some (by kernel_rfl))⟩
  t0 := Tryz.underlying0
  a0 := Tryz.isAgg0
  z0 := Tryz.sizeOf0
  v0 := Tryz.zeroValue0
  t3 := Tryz.underlying3
  a3 := Tryz.isAgg3
  z3 := Tryz.sizeOf3
  v3 := Tryz.zeroValue3
  t4 := Tryz.underlying4
  a4 := Tryz.isAgg4
  z4 := Tryz.sizeOf4
  v4 := Tryz.zeroValue4
  t5 := Tryz.underlying5
  a5 := Tryz.isAgg5
  z5 := Tryz.sizeOf5
  v5 := Tryz.zeroValue5
  t9 := Tryz.underlying9
  a9 := Tryz.isAgg9
  z9 := Tryz.sizeOf9
  v9 := Tryz.zeroValue9
  t22 := Tryz.underlying38
  a22 := Tryz.isAgg38
  z22 := Tryz.sizeOf38
  v22 := Tryz.zeroValue38
  t25 := Tryz.underlying134
  a25 := Tryz.isAgg134
  z25 := Tryz.sizeOf134
  v25 := Tryz.zeroValue134
  t39 := Tryz.underlying119
  a39 := Tryz.isAgg119
  z39 := Tryz.sizeOf119
  v39 := Tryz.zeroValue119
  t45 := Tryz.underlying146
  a45 := Tryz.isAgg146
  z45 := Tryz.sizeOf146
  v45 := Tryz.zeroValue146
  t46 := Tryz.underlying147
  a46 := Tryz.isAgg147
  z46 := Tryz.sizeOf147
  v46 := Tryz.zeroValue147
  t50 := Tryz.underlying151
  a50 := Tryz.isAgg151
  z50 := Tryz.sizeOf151
  v50 := Tryz.zeroValue151
  t53 := Tryz.underlying154
  a53 := Tryz.isAgg154
  z53 := Tryz.sizeOf154
  v53 := Tryz.zeroValue154
  t55 := Tryz.underlying156
  a55 := Tryz.isAgg156
  z55 := Tryz.sizeOf156
  v55 := Tryz.zeroValue156
  t66 := Tryz.underlying159
  a66 := Tryz.isAgg159
  z66 := Tryz.sizeOf159
  v66 := Tryz.zeroValue159
  t70 := Tryz.underlying68
  a70 := Tryz.isAgg68
  z70 := Tryz.sizeOf68
  v70 := Tryz.zeroValue68
  t76 := Tryz.underlying167
  a76 := Tryz.isAgg167
  z76 := Tryz.sizeOf167
  v76 := Tryz.zeroValue167
  t77 := Tryz.underlying117
  a77 := Tryz.isAgg117
  z77 := Tryz.sizeOf117
  v77 := Tryz.zeroValue117 }
def Tryz.lcont_ren : Go.Shelf.Ren := ⟨fun | 8 => 126 | 6 => 146 | n => n, fun | 22 => 38 | 23 => 55 | 25 => 142 | 4 => 4 | 3 => 3 | 0 => 0 | n => n, fun | n => n⟩
theorem Tryz.lcont : Go.Proofs.SlLaysH0.n8 Tryz.prog Tryz.lcont_ren := {
  mixed := by kernel_rfl
  f6 := ⟨Tryz.f146.name, by decide, Tryz.func146.trans (congrArg some (by kernel_rfl))⟩
  f8 := ⟨Tryz.f126.name, by decide, Tryz.func126.trans (congrArg some (by kernel_rfl))⟩
  t0 := Tryz.underlying0
  a0 := Tryz.isAgg0
  z0 := Tryz.sizeOf0
  v0 := Tryz.zeroValue0
  t3 := Tryz.underlying3
  a3 := Tryz.isAgg3
  z3 := Tryz.sizeOf3
  v3 := Tryz.zeroValue3
  t4 := Tryz.underlying4
  a4 := Tryz.isAgg4
  z4 := Tryz.sizeOf4
  v4 := Tryz.zeroValue4
  t22 := Tryz.underlying38
  a22 := Tryz.isAgg38
  z22 := Tryz.sizeOf38
  v22 := Tryz.zeroValue38
  t25 := Tryz.underlying142
  a25 := Tryz.isAgg142
  z25 := Tryz.sizeOf142
  v25 := Tryz.zeroValue142 }
end Go.Proofs

/- An attribute, as the reader reads it. -/
namespace Go.Proofs.YtmifejkddgcbmaaGreat
open Go.RowKit
set_option linter.unusedVariables false
set_option linter.unusedSimpArgs false

def encA (a : Att) : List Value := [.string a.1, .string a.2]

set_option maxRecDepth 100000 in
theorem attrEq_any (w : World) (x : Att) (c : Nat) (nm : ByteArray) (hc : w.cell? ⟨c, 0, none⟩ = some (.string nm)) (hcl : c < w.heap.size) :
    Calls Tryz.prog 127 #[.agg #[.string x.1, .string x.2], .pointer (some ⟨c, 0, none⟩)] w fun e w' => e = .returned (.bool (x.1.toList == nm.toList)) ∧ Below w.heap.size w w' := by
  have h1 : (w.alloc (.cells #[.string x.1, .string x.2] 55)).cell? ⟨c, 0, none⟩ = some (.string nm) := by
    rw [World.cell?_of_block (w := w) (a := ⟨c, 0, none⟩) (Below.heap_alloc _ _ _ hcl)]; exact hc
  obtain ⟨x1, x2⟩ := x
  simp only at h1 ⊢
  cases hz : (x1.toList == nm.toList)
  · go_enter Tryz.func127, Tryz.ntmps127
    go_wp2
    go_ret
    exact ⟨rfl, below_new w _⟩
  · go_enter Tryz.func127, Tryz.ntmps127
    go_wp2
    go_ret
    exact ⟨rfl, below_new w _⟩

set_option maxRecDepth 100000 in
theorem idxFunc_none (w : World) (a : Option Addr) (cap : Nat) (f : Value) : Calls Tryz.prog 146 #[.slice a 0 cap, f] w fun e w' => e = .returned (.int .i64 (-1)) ∧ Below w.heap.size w w' := by
  go_enter Tryz.func146, Tryz.ntmps146
  go_wp2
  go_loopw [8] (fun v wr => v = .int .i64 0 ∧ wr = w) (fun _ _ => 0)
  case atStart => exact ⟨rfl, rfl⟩
  case round =>
    obtain ⟨rfl, hw⟩ := hrel
    obtain rfl := hw.symm
    go_wp2
    go_ret
    exact ⟨rfl, Below.refl _ _⟩

set_option maxRecDepth 100000 in
theorem contains_none (w : World) (a : Option Addr) (cap : Nat) (f : Value) : Calls Tryz.prog 126 #[.slice a 0 cap, f] w fun e w' => e = .returned (.bool false) ∧ Below w.heap.size w w' := by
  have hi := idxFunc_none w a cap f
  go_enter Tryz.func126, Tryz.ntmps126
  go_wp2_with fail
  refine hi.mono ?_
  rintro e w1 ⟨rfl, hb⟩
  go_wp2
  go_ret
  exact ⟨rfl, hb⟩

/-- Whether a name stands among attributes. -/
theorem contains_any (w : World) (R : Nat → Prop) (la : Option Addr) (lcap : Nat) (L : List Att) (hL : AttrsR w R la L) (hR : ∀ k, R k → k < w.heap.size) (hn : L.length ≤ 32) (c : Nat) (nm : ByteArray) (hc : w.cell? ⟨c, 0, none⟩ = some (.string nm)) (hcl : c < w.heap.size) :
    Calls Tryz.prog 126 #[.slice la L.length lcap, .func (.func 127) #[] #[.pointer (some ⟨c, 0, none⟩)]] w fun e w' => e = .returned (.bool (L.any fun x => x.1.toList == nm.toList)) ∧ Below w.heap.size w w' := by
  cases L with
  | nil => exact contains_none w la lcap _
  | cons x r =>
    obtain ⟨g, o, rfl, hg, -, -⟩ := hL 0 x rfl
    have eg : ∀ args w, (callFunc 127 args).run Tryz.prog w = .ok (.enter 127 args) w := enters_of Tryz.func127 (by kernel_rfl) rfl
    have hp : PredBelow Tryz.prog 127 #[.pointer (some ⟨c, 0, none⟩)] (fun x : Att => .agg (encA x).toArray) (fun x => x.1.toList == nm.toList) w := by
      intro W y hb
      refine (attrEq_any W y c nm ((hb.cell (p := ⟨c, 0, none⟩) hcl).trans hc) (Nat.lt_of_lt_of_le hcl hb.size)).mono ?_
      rintro e w' ⟨he, hb'⟩
      exact ⟨he, hb.trans (hb'.mono hb.size)⟩
    have := AnyQ.slices_ContainsFunc Tryz.lcont 2 Tryz.isAgg55 Tryz.sizeOf55 encA (fun _ => rfl) (fun x => x.1.toList == nm.toList) 127 #[.pointer (some ⟨c, 0, none⟩)] eg g o (x :: r).length lcap (x :: r) w hp (Nat.le_refl _) (by omega) (hR g hg) (by
      intro j hj i v hv
      obtain ⟨p, hpj⟩ : ∃ p, (x :: r)[j]? = some p := ⟨_, List.getElem?_eq_getElem hj⟩
      obtain ⟨g', o', e', -, c1, c2⟩ := hL j p hpj
      cases e'
      have e2 : (x :: r)[j]! = p := by rw [List.getElem!_eq_getElem?_getD, hpj]; rfl
      rw [e2] at hv
      rcases i with _ | _ | i
      · cases hv; exact c1
      · cases hv; exact c2
      · simp [encA] at hv)
    rw [List.take_length] at this
    exact this

end Go.Proofs.YtmifejkddgcbmaaGreat

/- An attribute, as the reader reads it. -/
namespace Go.Proofs.YtmifejkddgcbmaaGreat
open Go.RowKit
set_option linter.unusedVariables false
set_option linter.unusedSimpArgs false

theorem Rd.alloc {w : World} {b : Nat} {tx : ByteArray} {s : St} (h : Rd w b tx s) (o : Obj) : Rd (w.alloc o) b tx s := h.below (below_new w o) h.facts.2.2.2.2.2.2.2
theorem Turn.ofAlloc {A : Nat → Prop} {w w' : World} {o : Obj} (h : Turn A (w.alloc o) w') : Turn A w w' := ⟨h.os, h.tape, h.output, Nat.le_trans (by simp) h.size, fun k hk ha => (h.block k (by simp; omega) ha).trans (Below.heap_alloc _ _ _ hk)⟩

set_option maxRecDepth 100000 in
set_option maxHeartbeats 1000000 in
theorem attr_any (w : World) (b : Nat) (tx : ByteArray) (s : St) (h : Rd w b tx s) (ok : Ok tx s) (R : Nat → Prop) (la : Option Addr) (lcap : Nat) (L : List Att) (hL : AttrsR w R la L) (hR : ∀ k, R k → k < w.heap.size ∧ k ≠ b) (hn : L.length ≤ 32) :
    Calls Tryz.prog 113 #[.pointer (some ⟨b, 0, none⟩), .slice la L.length lcap] w (Post w b tx (· = b) (attrP tx.data.toList L s) fun a e w' => e = .returned (.agg #[.string a.1, .string a.2])) := by
  have HOK : Hid (Ok tx s) := ok
  have hnm := rname_any' _ b tx s (h.alloc (.cells #[.string ⟨#[]⟩, .string ⟨#[]⟩] 55)) ok
  have hfl := fun W (p : Nat) (e : Int) => fail_any W (.pointer (some ⟨b, 0, none⟩)) p e
  have HR0 := h.alloc (.cells #[.string ⟨#[]⟩, .string ⟨#[]⟩] 55)
  obtain ⟨h0, h1, h2, h3, f1, f2, f3, hb⟩ := HR0.facts
  have HL : Hid (AttrsR w R la L) := hL
  have HRR : Hid (∀ k, R k → k < w.heap.size ∧ k ≠ b) := hR
  have hbw := h.facts.2.2.2.2.2.2.2
  clear h ok HR0 hL hR
  cases hx1 : nameP tx.data.toList s with
  | inr q_ =>
    obtain ⟨p, c⟩ := q_
    rw [hx1] at hnm
    have HG : Hid (attrP tx.data.toList L s = .inr (p, c)) := by show attrP _ _ _ = _; unfold attrP; rw [hx1]
    clear hx1
    go_enter Tryz.func113, Tryz.ntmps113
    go_wp2_with fail
    refine hnm.mono ?_
    rintro e w1 ⟨rfl, ht⟩
    exact ⟨rfl, Post.no HG.out ht.ofAlloc⟩
  | inl q_ =>
    obtain ⟨n, s1⟩ := q_
    rw [hx1] at hnm
    have HK1 : Hid (Ok tx s1) := HOK.out.name hx1
    have HG1 : Hid (attrP tx.data.toList L s = if L.length = 32 then .inr (s.at_, 2) else if L.any (fun x => x.1.toList == (ba n).toList) then .inr (s.at_, 41) else match expectP tx.data.toList 61 s1 with
      | .inr (p, e) => .inr (p, e)
      | .inl (_, s2) => match valueP tx.data.toList s2 with
        | .inr (p, e) => .inr (p, e)
        | .inl (v, s3) => .inl ((ba n, ba v), s3)) := by
      show attrP _ _ _ = _
      unfold attrP
      rw [hx1]
      simp only
      split
      · rfl
      · split
        · rfl
        · cases expectP tx.data.toList 61 s1 with
          | inr q_ => obtain ⟨p, e⟩ := q_; rfl
          | inl q_ => obtain ⟨u2, s2⟩ := q_; simp only; cases valueP tx.data.toList s2 <;> rfl
    clear hx1
    go_enter Tryz.func113, Tryz.ntmps113
    go_wp2_with fail
    refine hnm.mono ?_
    rintro e w1 ⟨rfl, hr1, ht1⟩
    have HT1 : Hid (Turn (fun x => x = b) w w1) := ht1.ofAlloc
    have HR1 : Hid (Rd w1 b tx s1) := hr1
    have HC1 : Hid (w1.heap[w.heap.size]? = some (.cells #[.string ⟨#[]⟩, .string ⟨#[]⟩] 55 (0, 0))) := by
      show _ = _
      rw [ht1.block w.heap.size (by simp) (by omega)]
      exact heap_alloc_new w _
    have hs1 : w.heap.size < w1.heap.size := Nat.lt_of_lt_of_le (by simp) ht1.size
    clear hnm hr1 ht1 h0 h1 h2 h3 f1 f2 f3
    by_cases hl : L.length = 32
    · have HG : Hid (attrP tx.data.toList L s = .inr (s.at_, 2)) := by show attrP _ _ _ = _; rw [HG1.out, if_pos hl]
      have t1 : ((L.length : Int) == 32) = true := by rw [hl]; rfl
      clear hl HG1
      go_wp2_with fail
      refine (hfl _ _ _).mono ?_
      rintro e w2 ⟨rfl, rfl⟩
      exact ⟨rfl, Post.no HG.out (HT1.out.alloc _)⟩
    · have t1 : ((L.length : Int) == 32) = false := by simp; omega
      have HL2 : AttrsR (w1.alloc (.cells #[.string (ba n), .string ⟨#[]⟩] 55)) R la L := HL.out.to (fun _ h => h) (fun k o hk => by
        have hk2 := HRR.out k hk
        rw [World.cell?_of_block (w := w1) (a := ⟨k, o, none⟩) (Below.heap_alloc _ _ _ (by show k < _; omega)), World.cell?_of_block (w := w) (a := ⟨k, o, none⟩) (HT1.out.block k hk2.1 hk2.2)])
      have hcon := contains_any (w1.alloc (.cells #[.string (ba n), .string ⟨#[]⟩] 55)) R la lcap L HL2 (fun k hk => by have := HRR.out k hk; simp; omega) hn w1.heap.size (ba n) ((isCells_new w1 _ _).cell 0) (by simp)
      have HT2 : Hid (Turn (fun x => x = b) w (w1.alloc (.cells #[.string (ba n), .string ⟨#[]⟩] 55))) := HT1.out.alloc _
      have HR2 : Hid (Rd (w1.alloc (.cells #[.string (ba n), .string ⟨#[]⟩] 55)) b tx s1) := HR1.out.alloc _
      have HCc : Hid ((w1.alloc (.cells #[.string (ba n), .string ⟨#[]⟩] 55)).heap[w1.heap.size]? = some (.cells #[.string (ba n), .string ⟨#[]⟩] 55 (0, 0))) := heap_alloc_new w1 _
      have HC2 : Hid ((w1.alloc (.cells #[.string (ba n), .string ⟨#[]⟩] 55)).heap[w.heap.size]? = some (.cells #[.string ⟨#[]⟩, .string ⟨#[]⟩] 55 (0, 0))) := by
        show _ = _
        rw [Below.heap_alloc _ _ _ hs1]; exact HC1.out
      have hcsz : w1.heap.size < (w1.alloc (.cells #[.string (ba n), .string ⟨#[]⟩] 55)).heap.size := by simp
      have hrb : b < (w1.alloc (.cells #[.string (ba n), .string ⟨#[]⟩] 55)).heap.size := by simp; omega
      cases hany : L.any (fun x => x.1.toList == (ba n).toList)
      · rw [hany] at hcon
        have HG2 : Hid (attrP tx.data.toList L s = match expectP tx.data.toList 61 s1 with
            | .inr (p, e) => .inr (p, e)
            | .inl (_, s2) => match valueP tx.data.toList s2 with
              | .inr (p, e) => .inr (p, e)
              | .inl (v, s3) => .inl ((ba n, ba v), s3)) := by show attrP _ _ _ = _; rw [HG1.out, if_neg hl, hany]; rfl
        clear hl HG1 hany HL2 HC1 HR1 HT1
        go_wp2_with fail
        refine hcon.mono ?_
        rintro e w3 ⟨rfl, hb3⟩
        have HT3 : Hid (Turn (fun x => x = b) w w3) := HT2.out.then hb3 HT2.out.size
        have hr3 : Rd w3 b tx s1 := HR2.out.below hb3 hrb
        have HCc3 : Hid (w3.heap[w1.heap.size]? = some (.cells #[.string (ba n), .string ⟨#[]⟩] 55 (0, 0))) := (hb3.block _ hcsz).trans HCc.out
        have HC3 : Hid (w3.heap[w.heap.size]? = some (.cells #[.string ⟨#[]⟩, .string ⟨#[]⟩] 55 (0, 0))) := (hb3.block _ (by omega)).trans HC2.out
        have hex := expect_any w3 b tx s1 hr3 HK1.out 61
        have hs3 : w1.heap.size < w3.heap.size := Nat.lt_of_lt_of_le hcsz hb3.size
        clear hcon hb3 hr3 HCc HC2 HR2 HT2 hcsz hrb
        cases hx4 : expectP tx.data.toList 61 s1 with
        | inr q_ =>
          obtain ⟨p, c⟩ := q_
          rw [hx4] at hex
          have HG : Hid (attrP tx.data.toList L s = .inr (p, c)) := by show attrP _ _ _ = _; rw [HG2.out, hx4]
          clear hx4
          go_wp2_with fail
          refine hex.mono ?_
          rintro e w4 ⟨rfl, ht⟩
          exact ⟨rfl, Post.no HG.out (HT3.out.trans ht)⟩
        | inl q_ =>
          obtain ⟨u4, s4⟩ := q_
          rw [hx4] at hex
          have HK4 : Hid (Ok tx s4) := HK1.out.expect hx4
          have HG4 : Hid (attrP tx.data.toList L s = match valueP tx.data.toList s4 with
              | .inr (p, e) => .inr (p, e)
              | .inl (v, s3) => .inl ((ba n, ba v), s3)) := by show attrP _ _ _ = _; rw [HG2.out, hx4]
          clear hx4 HG2
          go_wp2_with fail
          refine hex.mono ?_
          rintro e w4 ⟨⟨rfl, -⟩, hr4, ht4⟩
          have HT4 : Hid (Turn (fun x => x = b) w w4) := HT3.out.trans ht4
          have HCc4 : Hid (w4.heap[w1.heap.size]? = some (.cells #[.string (ba n), .string ⟨#[]⟩] 55 (0, 0))) := (ht4.block _ hs3 (by omega)).trans HCc3.out
          have HC4 : Hid (w4.heap[w.heap.size]? = some (.cells #[.string ⟨#[]⟩, .string ⟨#[]⟩] 55 (0, 0))) := (ht4.block _ (by omega) (by omega)).trans HC3.out
          have hs4 : w1.heap.size < w4.heap.size := Nat.lt_of_lt_of_le hs3 ht4.size
          have hva := value_any w4 b tx s4 hr4 HK4.out
          clear hex hr4 ht4 HCc3 HC3 HT3
          cases hx5 : valueP tx.data.toList s4 with
          | inr q_ =>
            obtain ⟨p, c⟩ := q_
            rw [hx5] at hva
            have HG : Hid (attrP tx.data.toList L s = .inr (p, c)) := by show attrP _ _ _ = _; rw [HG4.out, hx5]
            clear hx5
            go_wp2_with fail
            refine hva.mono ?_
            rintro e w5 ⟨rfl, ht⟩
            exact ⟨rfl, Post.no HG.out (HT4.out.trans ht)⟩
          | inl q_ =>
            obtain ⟨v, s5⟩ := q_
            rw [hx5] at hva
            have HG : Hid (attrP tx.data.toList L s = .inl ((ba n, ba v), s5)) := by show attrP _ _ _ = _; rw [HG4.out, hx5]
            clear hx5 HG4
            go_wp2_with fail
            refine hva.mono ?_
            rintro e w5 ⟨rfl, hr5, ht5⟩
            have HT5 : Hid (Turn (fun x => x = b) w w5) := HT4.out.trans ht5
            have HCc5 : Hid (w5.heap[w1.heap.size]? = some (.cells #[.string (ba n), .string ⟨#[]⟩] 55 (0, 0))) := (ht5.block _ hs4 (by omega)).trans HCc4.out
            have HC5 : Hid (w5.heap[w.heap.size]? = some (.cells #[.string ⟨#[]⟩, .string ⟨#[]⟩] 55 (0, 0))) := (ht5.block _ (by omega) (by omega)).trans HC4.out
            have HR5 : Hid (Rd w5 b tx s5) := hr5
            clear hva hr5 ht5 HCc4 HC4 HT4
            have fz1 : w5.frozen? ⟨w1.heap.size, 1, none⟩ = false := by simp [World.frozen?, HCc5.out]
            have fz2 : w5.frozen? ⟨w.heap.size, 0, none⟩ = false := by simp [World.frozen?, HC5.out]
            have fz3 : w5.frozen? ⟨w.heap.size, 1, none⟩ = false := by simp [World.frozen?, HC5.out]
            have c1 : w5.cell? ⟨w1.heap.size, 0, none⟩ = some (.string (ba n)) := by simp [World.cell?, HCc5.out]
            have c2 : w5.cell? ⟨w1.heap.size, 1, none⟩ = some (.string ⟨#[]⟩) := by simp [World.cell?, HCc5.out]
            have c3 : w5.cell? ⟨w.heap.size, 0, none⟩ = some (.string ⟨#[]⟩) := by simp [World.cell?, HC5.out]
            have c4 : w5.cell? ⟨w.heap.size, 1, none⟩ = some (.string ⟨#[]⟩) := by simp [World.cell?, HC5.out]
            have hne : w.heap.size ≠ w1.heap.size := by omega
            have hne' : w1.heap.size ≠ w.heap.size := by omega
            go_wp2
            have HR6 : Rd (((w5.setCell ⟨w1.heap.size, 1, none⟩ (.string (ba v))).setCell ⟨w.heap.size, 0, none⟩ (.string (ba n))).setCell ⟨w.heap.size, 1, none⟩ (.string (ba v))) b tx s5 := by
              refine HR5.out.of_block ?_ ?_
              · rw [Below.heap_setCell _ _ _ _ (by show b ≠ w.heap.size; omega), Below.heap_setCell _ _ _ _ (by show b ≠ w.heap.size; omega), Below.heap_setCell _ _ _ _ (by show b ≠ w1.heap.size; omega)]
              · rw [Below.heap_setCell _ _ _ _ (by show 0 ≠ w.heap.size; omega), Below.heap_setCell _ _ _ _ (by show 0 ≠ w.heap.size; omega), Below.heap_setCell _ _ _ _ (by show 0 ≠ w1.heap.size; omega)]
            have HT6 : Turn (fun x => x = b) w (((w5.setCell ⟨w1.heap.size, 1, none⟩ (.string (ba v))).setCell ⟨w.heap.size, 0, none⟩ (.string (ba n))).setCell ⟨w.heap.size, 1, none⟩ (.string (ba v))) :=
              ((HT5.out.setNew (p := ⟨w1.heap.size, 1, none⟩) (by show _ ≤ w1.heap.size; omega) _).setNew (p := ⟨w.heap.size, 0, none⟩) (Nat.le_refl _) _).setNew (p := ⟨w.heap.size, 1, none⟩) (Nat.le_refl _) _
            exact bodyPost_ret (v := .agg #[.string (ba n), .string (ba v)]) (by simp [results, Tryz.results113, go_sem, c3, c4]) rfl (Post.yes HG.out rfl HR6 HT6)
      · rw [hany] at hcon
        have HG2 : Hid (attrP tx.data.toList L s = .inr (s.at_, 41)) := by show attrP _ _ _ = _; rw [HG1.out, if_neg hl, hany]; rfl
        clear hl HG1 hany HL2
        go_wp2_with fail
        refine hcon.mono ?_
        rintro e w3 ⟨rfl, hb3⟩
        have HT3 : Hid (Turn (fun x => x = b) w w3) := HT2.out.then hb3 HT2.out.size
        clear hcon hb3
        go_wp2_with fail
        refine (hfl _ _ _).mono ?_
        rintro e w4 ⟨rfl, rfl⟩
        exact ⟨rfl, Post.no HG2.out HT3.out⟩

end Go.Proofs.YtmifejkddgcbmaaGreat
