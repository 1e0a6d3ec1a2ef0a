/- An element, as the reader reads it. -/
import Derived.Test.YtmifejkddgcbmaaGreatA21
namespace Go.Proofs.YtmifejkddgcbmaaGreat
open Go.RowKit
set_option linter.unusedVariables false
set_option linter.unusedSimpArgs false

/-- What siblings are when they were read. -/
def SibV (w : World) (d : Nat) (L : List (T d)) (e : Ending) (w' : World) : Prop :=
  ∃ a cap xs Rf, e = .returned (.slice a L.length cap) ∧ L.length ≤ 600000 ∧ w'.ownsRow w.heap.size 40 5 (.slice a L.length cap) L.length xs ∧ ForS (TreeS w' d) Rf xs L ∧ ∀ b, Rf b → w.heap.size ≤ b ∧ b < w'.heap.size ∧ (Value.slice a L.length cap).ownBlock ≠ some b
def ElV (w : World) (d : Nat) (t : T d) (e : Ending) (w' : World) : Prop :=
  ∃ u R, e = .returned (.agg u) ∧ TreeS w' d R u t ∧ ∀ b, R b → w.heap.size ≤ b ∧ b < w'.heap.size

def SibAll (d : Nat) : Prop := ∀ (w : World) (b : Nat) (tx : ByteArray) (s : St), Rd w b tx s → Ok tx s → s.op + d = 64 →
  Calls Tryz.prog 35 #[.pointer (some ⟨b, 0, none⟩)] w (Post w b tx (· = b) (sibP tx.data.toList d s) (SibV w d))
def ElAll (d : Nat) : Prop := ∀ (w : World) (b : Nat) (tx : ByteArray) (s : St), Rd w b tx s → Ok tx s → s.op + (d + 1) = 64 → s.at_ < tx.size →
  Calls Tryz.prog 57 #[.pointer (some ⟨b, 0, none⟩)] w (Post w b tx (· = b) (elemP tx.data.toList (sibP tx.data.toList d) s) (ElV w (d + 1)))

/-- The cells of a tree that is under way. -/
def elC (n : ByteArray) (va vk : Value) : Array Value := #[.int .i64 1, .string n, va, .string ⟨#[]⟩, vk]
theorem cells5 {w : World} {c : Nat} {n : ByteArray} {va vk : Value} (h : w.heap[c]? = some (.cells (elC n va vk) 40 (0, 0))) :
    w.cell? ⟨c, 0, none⟩ = some (.int .i64 1) ∧ w.cell? ⟨c, 1, none⟩ = some (.string n) ∧ w.cell? ⟨c, 2, none⟩ = some va ∧ w.cell? ⟨c, 3, none⟩ = some (.string ⟨#[]⟩) ∧ w.cell? ⟨c, 4, none⟩ = some vk ∧ ∀ j, w.frozen? ⟨c, j, none⟩ = false := by
  refine ⟨?_, ?_, ?_, ?_, ?_, fun j => ?_⟩ <;> simp [World.cell?, World.frozen?, h, elC]
theorem cells0 {w : World} {c : Nat} (h : w.heap[c]? = some (.cells #[.int .i64 0, .string ⟨#[]⟩, .slice none 0 0, .string ⟨#[]⟩, .slice none 0 0] 40 (0, 0))) :
    w.cell? ⟨c, 0, none⟩ = some (.int .i64 0) ∧ w.cell? ⟨c, 1, none⟩ = some (.string ⟨#[]⟩) ∧ w.cell? ⟨c, 2, none⟩ = some (.slice none 0 0) ∧ w.cell? ⟨c, 3, none⟩ = some (.string ⟨#[]⟩) ∧ w.cell? ⟨c, 4, none⟩ = some (.slice none 0 0) ∧ ∀ j, w.frozen? ⟨c, j, none⟩ = false := by
  refine ⟨?_, ?_, ?_, ?_, ?_, fun j => ?_⟩ <;> simp [World.cell?, World.frozen?, h]
theorem elC_set2 {w : World} {c : Nat} {n : ByteArray} {va vk : Value} (h : w.heap[c]? = some (.cells (elC n va vk) 40 (0, 0))) (v : Value) : (w.setCell ⟨c, 2, none⟩ v).heap[c]? = some (.cells (elC n v vk) 40 (0, 0)) := by
  simp [World.setCell, Array.getElem?_modify, h, elC]
theorem elC_set4 {w : World} {c : Nat} {n : ByteArray} {va vk : Value} (h : w.heap[c]? = some (.cells (elC n va vk) 40 (0, 0))) (v : Value) : (w.setCell ⟨c, 4, none⟩ v).heap[c]? = some (.cells (elC n va v) 40 (0, 0)) := by
  simp [World.setCell, Array.getElem?_modify, h, elC]

/-- What is kept while an element is read: its own word lies at c. -/
structure ElSt (w wr : World) (b : Nat) (tx : ByteArray) (c : Nat) (n : ByteArray) (va vk : Value) (s : St) : Prop where
  rd : Rd wr b tx s
  turn : Turn (fun x => x = b) w wr
  res : wr.heap[w.heap.size]? = some (.cells #[.int .i64 0, .string ⟨#[]⟩, .slice none 0 0, .string ⟨#[]⟩, .slice none 0 0] 40 (0, 0))
  cel : wr.heap[c]? = some (.cells (elC n va vk) 40 (0, 0))
  lt : w.heap.size < c
  ltb : b < w.heap.size

theorem ElSt.cl {w wr : World} {b : Nat} {tx : ByteArray} {c : Nat} {n : ByteArray} {va vk : Value} {s : St} (h : ElSt w wr b tx c n va vk s) : c < wr.heap.size := (Array.getElem?_eq_some_iff.1 h.cel).1
theorem ElSt.go {w wr wr' : World} {b : Nat} {tx : ByteArray} {c : Nat} {n : ByteArray} {va vk : Value} {s s' : St} (h : ElSt w wr b tx c n va vk s) (hr : Rd wr' b tx s') (ht : Turn (fun x => x = b) wr wr') : ElSt w wr' b tx c n va vk s' :=
  ⟨hr, h.turn.trans ht, (ht.block _ (by have := h.cl; have := h.lt; omega) (by have := h.ltb; omega)).trans h.res, (ht.block _ h.cl (by have := h.lt; have := h.ltb; omega)).trans h.cel, h.lt, h.ltb⟩
theorem ElSt.rdSet {w wr : World} {b : Nat} {tx : ByteArray} {c : Nat} {n : ByteArray} {va vk : Value} {s : St} (h : ElSt w wr b tx c n va vk s) (j : Nat) (v : Value) : Rd (wr.setCell ⟨c, j, none⟩ v) b tx s := by
  have h1 := h.lt
  have h2 := h.ltb
  exact h.rd.of_block (Below.heap_setCell _ _ _ _ (by show b ≠ c; omega)) (Below.heap_setCell _ _ _ _ (by show 0 ≠ c; omega))
theorem ElSt.set2 {w wr : World} {b : Nat} {tx : ByteArray} {c : Nat} {n : ByteArray} {va vk : Value} {s : St} (h : ElSt w wr b tx c n va vk s) (v : Value) : ElSt w (wr.setCell ⟨c, 2, none⟩ v) b tx c n v vk s := by
  have h1 := h.lt
  exact ⟨h.rdSet _ _, h.turn.setNew (p := ⟨c, 2, none⟩) (by show _ ≤ c; omega) _, (Below.heap_setCell _ _ _ _ (by show w.heap.size ≠ c; omega)).trans h.res, elC_set2 h.cel v, h.lt, h.ltb⟩
theorem ElSt.set4 {w wr : World} {b : Nat} {tx : ByteArray} {c : Nat} {n : ByteArray} {va vk : Value} {s : St} (h : ElSt w wr b tx c n va vk s) (v : Value) : ElSt w (wr.setCell ⟨c, 4, none⟩ v) b tx c n va v s := by
  have h1 := h.lt
  exact ⟨h.rdSet _ _, h.turn.setNew (p := ⟨c, 4, none⟩) (by show _ ≤ c; omega) _, (Below.heap_setCell _ _ _ _ (by show w.heap.size ≠ c; omega)).trans h.res, elC_set4 h.cel v, h.lt, h.ltb⟩

/-- The cells of a tree that is told. -/
def resW (w9 : World) (r : Nat) (n : ByteArray) (va vk : Value) : World :=
  ((((w9.setCell ⟨r, 0, none⟩ (.int .i64 1)).setCell ⟨r, 1, none⟩ (.string n)).setCell ⟨r, 2, none⟩ va).setCell ⟨r, 3, none⟩ (.string ⟨#[]⟩)).setCell ⟨r, 4, none⟩ vk
theorem resW_other (w9 : World) (r : Nat) (n : ByteArray) (va vk : Value) (k : Nat) (h : k ≠ r) : (resW w9 r n va vk).heap[k]? = w9.heap[k]? := by
  unfold resW
  rw [Below.heap_setCell _ _ _ _ h, Below.heap_setCell _ _ _ _ h, Below.heap_setCell _ _ _ _ h, Below.heap_setCell _ _ _ _ h, Below.heap_setCell _ _ _ _ h]
theorem resW_size (w9 : World) (r : Nat) (n : ByteArray) (va vk : Value) : (resW w9 r n va vk).heap.size = w9.heap.size := by simp [resW, World.setCell]

theorem resW_turn {A : Nat → Prop} {w w9 : World} (h : Turn A w w9) (n : ByteArray) (va vk : Value) : Turn A w (resW w9 w.heap.size n va vk) :=
  ((((h.setNew (p := ⟨w.heap.size, 0, none⟩) (Nat.le_refl _) _).setNew (p := ⟨w.heap.size, 1, none⟩) (Nat.le_refl _) _).setNew (p := ⟨w.heap.size, 2, none⟩) (Nat.le_refl _) _).setNew (p := ⟨w.heap.size, 3, none⟩) (Nat.le_refl _) _).setNew (p := ⟨w.heap.size, 4, none⟩) (Nat.le_refl _) _

theorem treeS_el {W : World} {d : Nat} {n : Bs} {L : List Att} {x : List (T d)} {aa : Option Addr} {acap : Nat} {ka : Option Addr} {kc : Nat} {xs : List Value} {Rf R : Nat → Prop} (hL : L.length ≤ 32) (hx : x.length ≤ 600000)
    (h4 : W.ownsRow 0 55 2 (.slice aa L.length acap) L.length (attrCells L)) (h5 : W.ownsRow 0 40 5 (.slice ka x.length kc) x.length xs) (h6 : ForS (TreeS W d) Rf xs x) (h7 : ∀ b, Rf b → R b)
    (h8 : ∀ b, (Value.slice aa L.length acap).ownBlock = some b → R b ∧ ¬ Rf b) (h9 : ∀ b, (Value.slice ka x.length kc).ownBlock = some b → R b ∧ ¬ Rf b ∧ (Value.slice aa L.length acap).ownBlock ≠ some b) :
    TreeS W (d + 1) R (tv 1 (ba n) aa L.length acap ⟨#[]⟩ ka x.length kc) (elT n L x) := by
  unfold TreeS elT
  exact ⟨aa, acap, ka, kc, xs, Rf, rfl, hL, hx, h4, h5, h6, h7, h8, h9⟩

/-- What is told of an element. -/
theorem el_ret {w w9 : World} {b : Nat} {tx : ByteArray} {c : Nat} {n : Bs} {aa : Option Addr} {acap : Nat} {L : List Att} {s : St} {d : Nat} {x : List (T d)} {ka : Option Addr} {kc : Nat} {xs : List Value} {Rf : Nat → Prop}
    (h : ElSt w w9 b tx c (ba n) (.slice aa L.length acap) (.slice ka x.length kc) s) (ho : w9.ownsRow (c + 1) 55 2 (.slice aa L.length acap) L.length (attrCells L))
    (hc : w.heap.size < c) (hL : L.length ≤ 32) (hx : x.length ≤ 600000) (hk : w9.ownsRow (c + 1) 40 5 (.slice ka x.length kc) x.length xs) (hf : ForS (TreeS w9 d) Rf xs x)
    (hR : ∀ k, Rf k → c < k ∧ k < w9.heap.size ∧ (Value.slice ka x.length kc).ownBlock ≠ some k ∧ (Value.slice aa L.length acap).ownBlock ≠ some k)
    (hne : ∀ k, (Value.slice ka x.length kc).ownBlock = some k → (Value.slice aa L.length acap).ownBlock ≠ some k) :
    Rd (resW w9 w.heap.size (ba n) (.slice aa L.length acap) (.slice ka x.length kc)) b tx s ∧ Turn (fun x => x = b) w (resW w9 w.heap.size (ba n) (.slice aa L.length acap) (.slice ka x.length kc)) ∧
    TreeS (resW w9 w.heap.size (ba n) (.slice aa L.length acap) (.slice ka x.length kc)) (d + 1) (fun k => w.heap.size ≤ k ∧ k < (resW w9 w.heap.size (ba n) (.slice aa L.length acap) (.slice ka x.length kc)).heap.size) (tv 1 (ba n) aa L.length acap ⟨#[]⟩ ka x.length kc) (elT n L x) := by
  have hb := h.ltb
  have hcl := h.cl
  have oth := resW_other w9 w.heap.size (ba n) (.slice aa L.length acap) (.slice ka x.length kc)
  have hsz := resW_size w9 w.heap.size (ba n) (.slice aa L.length acap) (.slice ka x.length kc)
  have htn := resW_turn h.turn (ba n) (.slice aa L.length acap) (.slice ka x.length kc)
  generalize resW w9 w.heap.size (ba n) (.slice aa L.length acap) (.slice ka x.length kc) = W at *
  refine ⟨h.rd.of_block (oth b (by omega)) (oth 0 (by omega)), htn, ?_⟩
  refine treeS_el (Rf := Rf) (xs := xs) hL hx ?_ ?_ (hf.to (fun k hk' => oth k (by have := hR k hk'; omega)) (fun _ h => h)) ?_ ?_ ?_
  · exact own_base (own_of_block ho (fun k hk' => oth k (by have := (own_block_lt ho k hk').1; omega))) (fun k _ => Nat.zero_le _)
  · exact own_base (own_of_block hk (fun k hk' => oth k (by have := (own_block_lt hk k hk').1; omega))) (fun k _ => Nat.zero_le _)
  · intro k hk'
    have := hR k hk'
    rw [hsz]
    exact ⟨by omega, this.2.1⟩
  · intro k hk'
    have h1 := own_block_lt ho k hk'
    rw [hsz]
    exact ⟨⟨by omega, h1.2⟩, fun hr => (hR k hr).2.2.2 hk'⟩
  · intro k hk'
    have h1 := own_block_lt hk k hk'
    rw [hsz]
    exact ⟨⟨by omega, h1.2⟩, fun hr => (hR k hr).2.2.1 hk', hne k hk'⟩

set_option maxRecDepth 100000 in
/-- Where no more lies within. -/
theorem el_full (w : World) (b : Nat) (tx : ByteArray) (s : St) (h : Rd w b tx s) (ok : Ok tx s) (p : Nat) (c : Int) (hx : beginP s s.at_ = .inr (p, c)) :
    Calls Tryz.prog 57 #[.pointer (some ⟨b, 0, none⟩)] w fun e w' => e = fault p c ∧ Turn (fun x => x = b) w w' := by
  have hr := h.alloc (.cells #[.int .i64 0, .string ⟨#[]⟩, .slice none 0 0, .string ⟨#[]⟩, .slice none 0 0] 40)
  have hbg := begin_any _ b tx s hr ok s.at_
  rw [hx] at hbg
  obtain ⟨h0, h1, h2, h3, f1, f2, f3, hb⟩ := hr.facts
  go_enter Tryz.func57, Tryz.ntmps57
  go_wp2_with fail
  refine hbg.mono ?_
  rintro e w1 ⟨rfl, ht⟩
  exact ⟨rfl, rfl, ht.ofAlloc⟩

set_option maxRecDepth 100000 in
set_option maxHeartbeats 2000000 in
theorem el_of_sib (d : Nat) (ih : SibAll d) : ElAll d := by
  intro w b tx s h ok hop hlt
  cases hx1 : beginP s s.at_ with
  | inr q_ =>
    obtain ⟨p, c⟩ := q_
    refine (el_full w b tx s h ok p c hx1).mono ?_
    rintro e w' ⟨rfl, ht⟩
    exact Post.no (by unfold elemP; rw [hx1]) ht
  | inl q_ =>
    obtain ⟨u1, s1⟩ := q_
    obtain ⟨es1, hn1, hn2⟩ := beginP_ok hx1
    have hr := h.alloc (.cells #[.int .i64 0, .string ⟨#[]⟩, .slice none 0 0, .string ⟨#[]⟩, .slice none 0 0] 40)
    have hbg := begin_any _ b tx s hr ok s.at_
    have HOK : Hid (Ok tx s) := ok
    obtain ⟨k1, k2, k3, k4⟩ := ok
    rw [hx1] at hbg
    obtain ⟨h0, h1, h2, h3, f1, f2, f3, hb⟩ := hr.facts
    have hbw := h.facts.2.2.2.2.2.2.2
    have HK1 : Hid (Ok tx { s1 with at_ := s1.at_ + 1 }) := by subst es1; exact ⟨k1, by simp only; omega, by simp only; omega, k4⟩
    have HS1 : Hid (s1.at_ = s.at_ ∧ s1.op = s.op) := by subst es1; exact ⟨rfl, rfl⟩
    have HX1 : Hid (beginP s s.at_ = .inl (u1, s1)) := hx1
    have hs1b : s1.at_ ≤ 262144 := by have := HS1.out.1; omega
    clear h hx1 hr es1
    go_enter Tryz.func57, Tryz.ntmps57
    go_wp2_with fail
    refine hbg.mono ?_
    rintro e w1 ⟨⟨rfl, -⟩, hr1, ht1⟩
    have HT1 : Hid (Turn (fun x => x = b) w w1) := ht1.ofAlloc
    have HC1 : Hid (w1.heap[w.heap.size]? = some (.cells #[.int .i64 0, .string ⟨#[]⟩, .slice none 0 0, .string ⟨#[]⟩, .slice none 0 0] 40 (0, 0))) := by
      show _ = _
      rw [ht1.block w.heap.size (by simp) (by omega)]
      exact heap_alloc_new w _
    have hz1 : w.heap.size < w1.heap.size := Nat.lt_of_lt_of_le (by simp) ht1.size
    have HR1 : Hid (Rd w1 b tx s1) := hr1
    clear hbg hr1 ht1 h0 h1 h2 h3 f1 f2 f3 hb
    obtain ⟨h0, h1, h2, h3, f1, f2, f3, hb⟩ := HR1.out.facts
    have HR2 : Hid (Rd (w1.setCell ⟨b, 1, none⟩ (.int .i64 ((s1.at_ : Int) + 1))) b tx { s1 with at_ := s1.at_ + 1 }) := HR1.out.setAt _ (by simp)
    have HT2 : Hid (Turn (fun x => x = b) w (w1.setCell ⟨b, 1, none⟩ (.int .i64 ((s1.at_ : Int) + 1)))) := turn_set HT1.out _ _
    have HC2 : Hid ((w1.setCell ⟨b, 1, none⟩ (.int .i64 ((s1.at_ : Int) + 1))).heap[w.heap.size]? = some (.cells #[.int .i64 0, .string ⟨#[]⟩, .slice none 0 0, .string ⟨#[]⟩, .slice none 0 0] 40 (0, 0))) := (Below.heap_setCell _ _ _ _ (by show w.heap.size ≠ b; omega)).trans HC1.out
    have hz2 : w.heap.size < (w1.setCell ⟨b, 1, none⟩ (.int .i64 ((s1.at_ : Int) + 1))).heap.size := by simpa [World.setCell] using hz1
    have hnm := rname_any' _ b tx _ HR2.out HK1.out
    clear HR1 HT1 HC1 hz1
    cases hx2 : nameP tx.data.toList { s1 with at_ := s1.at_ + 1 } with
    | inr q_ =>
      obtain ⟨p, c⟩ := q_
      rw [hx2] at hnm
      have HG : Hid (elemP tx.data.toList (sibP tx.data.toList d) s = .inr (p, c)) := by show elemP _ _ _ = _; unfold elemP; simp only [HX1.out, hx2]
      clear hx2
      go_wp2_with fail
      refine hnm.mono ?_
      rintro e w3 ⟨rfl, ht3⟩
      exact ⟨rfl, Post.no HG.out (HT2.out.trans ht3)⟩
    | inl q_ =>
      obtain ⟨n, s2⟩ := q_
      rw [hx2] at hnm
      have HX2 : Hid (nameP tx.data.toList { s1 with at_ := s1.at_ + 1 } = .inl (n, s2)) := hx2
      have HK2 : Hid (Ok tx s2) := HK1.out.name hx2
      have HS2 : Hid (s1.at_ < s2.at_ ∧ s2.op = s1.op) := by obtain ⟨e1, -, -, -, e5, -⟩ := nameP_ok hx2; subst e1; exact ⟨by simp only; omega, rfl⟩
      clear hx2
      go_wp2_with fail
      refine hnm.mono ?_
      rintro e w3 ⟨rfl, hr3, ht3⟩
      clear h0 h1 h2 h3 f1 f2 f3 hb
      have HT3 : Hid (Turn (fun x => x = b) w w3) := HT2.out.trans ht3
      have HC3 : Hid (w3.heap[w.heap.size]? = some (.cells #[.int .i64 0, .string ⟨#[]⟩, .slice none 0 0, .string ⟨#[]⟩, .slice none 0 0] 40 (0, 0))) := (ht3.block _ hz2 (by omega)).trans HC2.out
      have hz3 : w.heap.size < w3.heap.size := Nat.lt_of_lt_of_le hz2 ht3.size
      have HR3 : Hid (Rd w3 b tx s2) := hr3
      clear hnm hr3 ht3 HT2 HC2 HR2 hz2
      -- the tree under way lies behind it
      have HR4 : Hid (Rd (w3.alloc (.cells #[.int .i64 1, .string (ba n), .slice none 0 0, .string ⟨#[]⟩, .slice none 0 0] 40)) b tx s2) := HR3.out.alloc _
      have hat := attrs_any _ b tx s2 HR4.out HK2.out
      have HE4 : Hid (ElSt w (w3.alloc (.cells #[.int .i64 1, .string (ba n), .slice none 0 0, .string ⟨#[]⟩, .slice none 0 0] 40)) b tx w3.heap.size (ba n) (.slice none 0 0) (.slice none 0 0) s2) := ⟨HR4.out, HT3.out.alloc _, (Below.heap_alloc _ _ _ hz3).trans HC3.out, heap_alloc_new w3 _, hz3, hbw⟩
      have HZ4 : Hid ((w3.alloc (.cells #[.int .i64 1, .string (ba n), .slice none 0 0, .string ⟨#[]⟩, .slice none 0 0] 40)).heap.size = w3.heap.size + 1) := by show _ = _; simp
      clear HT3 HC3 HR3 HR4
      cases hx3 : attrsP tx.data.toList s2 with
      | inr q_ =>
        obtain ⟨p, e⟩ := q_
        rw [hx3] at hat
        have HG : Hid (elemP tx.data.toList (sibP tx.data.toList d) s = .inr (p, e)) := by show elemP _ _ _ = _; unfold elemP; simp only [HX1.out, HX2.out, hx3]
        clear hx3
        go_wp2_with fail
        refine hat.mono ?_
        rintro e w5 ⟨rfl, ht5⟩
        exact ⟨rfl, Post.no HG.out (HE4.out.turn.trans ht5)⟩
      | inl q_ =>
        obtain ⟨L, s3⟩ := q_
        rw [hx3] at hat
        have HX3 : Hid (attrsP tx.data.toList s2 = .inl (L, s3)) := hx3
        obtain ⟨g1, g2, g3, g4, g5⟩ := attrsP_ok hx3 (by rw [size_list]; exact HK2.out.at_)
        rw [size_list] at g2
        have HK3 : Hid (Ok tx s3) := ⟨k1, g2, by rw [g3]; exact HK2.out.nodes, by rw [g4]; exact HK2.out.op⟩
        have HS3 : Hid (s3.op = s.op) := by show _ = _; rw [g4, HS2.out.2, HS1.out.2]
        clear hx3 g3 g4
        go_wp2_with fail
        refine hat.mono ?_
        rintro e w5 ⟨⟨aa, acap, rfl, ho5⟩, hr5, ht5⟩
        have HE5 : Hid (ElSt w w5 b tx w3.heap.size (ba n) (.slice none 0 0) (.slice none 0 0) s3) := HE4.out.go hr5 ht5
        rw [HZ4.out] at ho5
        have HO5 : Hid (w5.ownsRow (w3.heap.size + 1) 55 2 (.slice aa L.length acap) L.length (attrCells L)) := ho5
        clear hat hr5 ht5 ho5 HE4 HZ4
        obtain ⟨c0, c1, c2, c3, c4, cf⟩ := cells5 HE5.out.cel
        have HE6 : Hid (ElSt w (w5.setCell ⟨w3.heap.size, 2, none⟩ (.slice aa L.length acap)) b tx w3.heap.size (ba n) (.slice aa L.length acap) (.slice none 0 0) s3) := HE5.out.set2 _
        have HO6 : Hid ((w5.setCell ⟨w3.heap.size, 2, none⟩ (.slice aa L.length acap)).ownsRow (w3.heap.size + 1) 55 2 (.slice aa L.length acap) L.length (attrCells L)) := own_of_block HO5.out (fun k hk => Below.heap_setCell _ _ _ _ (by have := (own_block_lt HO5.out k hk).1; show k ≠ w3.heap.size; omega))
        have hnd := need_any _ b tx s3 HE6.out.rd HK3.out
        clear HE5 HO5
        by_cases hl3 : s3.at_ < tx.size
        · rw [needP_at hl3] at hnd
          have ge := get_some hl3
          by_cases hc : tx[s3.at_]'hl3 = 47
          · have t1 : (((tx[s3.at_]'hl3).toNat : Int) == 47) = true := by rw [hc]; rfl
            have HC47 : Hid (tx.data.toList[s3.at_]? = some 47) := by show _ = _; rw [ge, hc]
            clear ge hc
            generalize tx[s3.at_]'hl3 = cc at *
            go_wp2_with fail
            refine hnd.mono ?_
            rintro e w7 ⟨⟨rfl, hb7⟩, hr7, -⟩
            have HE7 : Hid (ElSt w w7 b tx w3.heap.size (ba n) (.slice aa L.length acap) (.slice none 0 0) s3) := HE6.out.go hr7 (turn_below _ hb7 (Nat.le_refl _))
            have HO7 : Hid (w7.ownsRow (w3.heap.size + 1) 55 2 (.slice aa L.length acap) L.length (attrCells L)) := owns_below HO6.out hb7
            clear hnd hb7 hr7 HE6 HO6 c0 c1 c2 c3 c4 cf
            obtain ⟨h0, h1, h2, h3, f1, f2, f3, hb⟩ := HE7.out.rd.facts
            have HR8 : Hid (Rd (w7.setCell ⟨b, 1, none⟩ (.int .i64 ((s3.at_ : Int) + 1))) b tx { s3 with at_ := s3.at_ + 1 }) := HE7.out.rd.setAt _ (by simp)
            have HE8 : Hid (ElSt w (w7.setCell ⟨b, 1, none⟩ (.int .i64 ((s3.at_ : Int) + 1))) b tx w3.heap.size (ba n) (.slice aa L.length acap) (.slice none 0 0) { s3 with at_ := s3.at_ + 1 }) := HE7.out.go HR8.out (turn_set (Turn.refl _ w7) _ _)
            have HO8 : Hid ((w7.setCell ⟨b, 1, none⟩ (.int .i64 ((s3.at_ : Int) + 1))).ownsRow (w3.heap.size + 1) 55 2 (.slice aa L.length acap) L.length (attrCells L)) := own_row_to HO7.out (turn_set (Turn.refl _ w7) 1 _) (fun k hk e => by omega)
            have HK8 : Hid (Ok tx { s3 with at_ := s3.at_ + 1 }) := ⟨k1, by simp only; omega, HK3.out.nodes, HK3.out.op⟩
            have hex := expect_any _ b tx _ HR8.out HK8.out 62
            cases hx4 : expectP tx.data.toList 62 { s3 with at_ := s3.at_ + 1 } with
            | inr q_ =>
              obtain ⟨p, e⟩ := q_
              rw [hx4] at hex
              have HG : Hid (elemP tx.data.toList (sibP tx.data.toList d) s = .inr (p, e)) := by show elemP _ _ _ = _; unfold elemP; simp only [HX1.out, HX2.out, HX3.out, HC47.out, hx4, if_true]
              clear hx4
              go_wp2_with fail
              refine hex.mono ?_
              rintro e w9 ⟨rfl, ht9⟩
              exact ⟨rfl, Post.no HG.out (HE8.out.turn.trans ht9)⟩
            | inl q_ =>
              obtain ⟨u4, s4⟩ := q_
              rw [hx4] at hex
              have HG : Hid (elemP tx.data.toList (sibP tx.data.toList d) s = .inl ((elT n L []), s4)) := by show elemP _ _ _ = _; unfold elemP; simp only [HX1.out, HX2.out, HX3.out, HC47.out, hx4, if_true]
              clear hx4
              go_wp2_with fail
              refine hex.mono ?_
              rintro e w9 ⟨⟨rfl, -⟩, hr9, ht9⟩
              have HE9 : Hid (ElSt w w9 b tx w3.heap.size (ba n) (.slice aa L.length acap) (.slice none 0 0) s4) := HE8.out.go hr9 ht9
              have HO9 : Hid (w9.ownsRow (w3.heap.size + 1) 55 2 (.slice aa L.length acap) L.length (attrCells L)) := own_row_to HO8.out ht9 (fun k hk e => by omega)
              clear hex hr9 ht9 HE8 HO8 HE7 HO7 HR8 h0 h1 h2 h3 f1 f2 f3 hb
              have key := el_ret HE9.out HO9.out (ka := none) (kc := 0) (xs := []) (d := d) (x := []) (Rf := fun _ => False) (by omega) g5 (by simp) ⟨rfl, .inl ⟨rfl, rfl⟩⟩ (ForS.nil _ _) (fun b h => h.elim) (fun k h => by cases h)
              obtain ⟨c0, c1, c2, c3, c4, cf⟩ := cells5 HE9.out.cel
              obtain ⟨r0, r1, r2, r3, r4, rf⟩ := cells0 HE9.out.res
              have hne : w.heap.size ≠ w3.heap.size := by omega
              have hne' : w3.heap.size ≠ w.heap.size := by omega
              have KEY : Hid _ := key
              clear key
              go_wp2
              obtain ⟨q1, q2, q3⟩ := KEY.out
              exact bodyPost_ret (v := .agg (tv 1 (ba n) aa L.length acap ⟨#[]⟩ none 0 0)) (by simp [results, Tryz.results57, go_sem, tv, r0, r1, r2, r3, r4]) rfl (Post.yes HG.out ⟨_, _, rfl, q3, fun b h => h⟩ q1 q2)
          · have t1 : (((tx[s3.at_]'hl3).toNat : Int) == 47) = false := by
              have : (tx[s3.at_]'hl3).toNat ≠ 47 := fun e => hc (UInt8.toNat_inj.1 e)
              simp; omega
            have HC47 : Hid (∃ c, tx.data.toList[s3.at_]? = some c ∧ c ≠ 47) := ⟨_, ge, hc⟩
            clear ge hc
            generalize tx[s3.at_]'hl3 = cc at *
            go_wp2_with fail
            refine hnd.mono ?_
            rintro e w7 ⟨⟨rfl, hb7⟩, hr7, -⟩
            have HE7 : Hid (ElSt w w7 b tx w3.heap.size (ba n) (.slice aa L.length acap) (.slice none 0 0) s3) := HE6.out.go hr7 (turn_below _ hb7 (Nat.le_refl _))
            have HO7 : Hid (w7.ownsRow (w3.heap.size + 1) 55 2 (.slice aa L.length acap) L.length (attrCells L)) := owns_below HO6.out hb7
            clear hnd hb7 hr7 HE6 HO6 c0 c1 c2 c3 c4 cf
            have hex := expect_any _ b tx _ HE7.out.rd HK3.out 62
            cases hx4 : expectP tx.data.toList 62 s3 with
            | inr q_ =>
              obtain ⟨p, e⟩ := q_
              rw [hx4] at hex
              have HG : Hid (elemP tx.data.toList (sibP tx.data.toList d) s = .inr (p, e)) := by
                obtain ⟨c, e1, e2⟩ := HC47.out
                show elemP _ _ _ = _; unfold elemP; simp only [HX1.out, HX2.out, HX3.out, e1, e2, hx4, if_false]
              clear hx4
              go_wp2_with fail
              refine hex.mono ?_
              rintro e w8 ⟨rfl, ht8⟩
              exact ⟨rfl, Post.no HG.out (HE7.out.turn.trans ht8)⟩
            | inl q_ =>
              obtain ⟨u4, s4⟩ := q_
              rw [hx4] at hex
              have HX4 : Hid (expectP tx.data.toList 62 s3 = .inl (u4, s4)) := hx4
              have HK4 : Hid (Ok tx s4) := HK3.out.expect hx4
              have HS4 : Hid (s4.op = s.op) := by obtain ⟨e1, -⟩ := expectP_ok hx4; subst e1; exact HS3.out
              have hs4b : s4.op ≤ 64 := HK4.out.op
              clear hx4
              go_wp2_with fail
              refine hex.mono ?_
              rintro e w8 ⟨⟨rfl, -⟩, hr8, ht8⟩
              have HE8 : Hid (ElSt w w8 b tx w3.heap.size (ba n) (.slice aa L.length acap) (.slice none 0 0) s4) := HE7.out.go hr8 ht8
              have HO8 : Hid (w8.ownsRow (w3.heap.size + 1) 55 2 (.slice aa L.length acap) L.length (attrCells L)) := own_row_to HO7.out ht8 (fun k hk e => by omega)
              clear hex hr8 ht8 HE7 HO7
              obtain ⟨h0, h1, h2, h3, f1, f2, f3, hb⟩ := HE8.out.rd.facts
              have HR9 : Hid (Rd (w8.setCell ⟨b, 3, none⟩ (.int .i64 ((s4.op : Int) + 1))) b tx { s4 with op := s4.op + 1 }) := HE8.out.rd.setOp _ (by simp)
              have HE9 : Hid (ElSt w (w8.setCell ⟨b, 3, none⟩ (.int .i64 ((s4.op : Int) + 1))) b tx w3.heap.size (ba n) (.slice aa L.length acap) (.slice none 0 0) { s4 with op := s4.op + 1 }) := HE8.out.go HR9.out (turn_set (Turn.refl _ w8) _ _)
              have HO9 : Hid ((w8.setCell ⟨b, 3, none⟩ (.int .i64 ((s4.op : Int) + 1))).ownsRow (w3.heap.size + 1) 55 2 (.slice aa L.length acap) L.length (attrCells L)) := own_row_to HO8.out (turn_set (Turn.refl _ w8) 3 _) (fun k hk e => by omega)
              have HK9 : Hid (Ok tx { s4 with op := s4.op + 1 }) := ⟨k1, HK4.out.at_, HK4.out.nodes, by have := HS4.out; simp only; omega⟩
              have hsb := ih _ b tx _ HR9.out HK9.out (by have := HS4.out; simp only; omega)
              clear HE8 HO8
              cases hx5 : sibP tx.data.toList d { s4 with op := s4.op + 1 } with
              | inr q_ =>
                obtain ⟨p, e⟩ := q_
                rw [hx5] at hsb
                have HG : Hid (elemP tx.data.toList (sibP tx.data.toList d) s = .inr (p, e)) := by
                  obtain ⟨c, e1, e2⟩ := HC47.out
                  show elemP _ _ _ = _; unfold elemP; simp only [HX1.out, HX2.out, HX3.out, e1, e2, HX4.out, hx5, if_false]
                clear hx5
                go_wp2_with fail
                refine hsb.mono ?_
                rintro e w10 ⟨rfl, ht10⟩
                exact ⟨rfl, Post.no HG.out (HE9.out.turn.trans ht10)⟩
              | inl q_ =>
                obtain ⟨x, s5⟩ := q_
                rw [hx5] at hsb
                have HX5 : Hid (sibP tx.data.toList d { s4 with op := s4.op + 1 } = .inl (x, s5)) := hx5
                have HP5 : Hid (s5.op = s4.op + 1 ∧ Ok tx s5) := sibP_ok HK9.out (by have := HS4.out; simp only; omega) hx5
                clear hx5
                go_wp2_with fail
                refine hsb.mono ?_
                rintro e w10 ⟨⟨ka, kc, xs, Rf, rfl, hxl, hko, hfo, hRf⟩, hr10, ht10⟩
                have hz9 : w3.heap.size < (w8.setCell ⟨b, 3, none⟩ (.int .i64 ((s4.op : Int) + 1))).heap.size := HE9.out.cl
                have HE10 : Hid (ElSt w w10 b tx w3.heap.size (ba n) (.slice aa L.length acap) (.slice none 0 0) s5) := HE9.out.go hr10 ht10
                have HO10 : Hid (w10.ownsRow (w3.heap.size + 1) 55 2 (.slice aa L.length acap) L.length (attrCells L)) := own_row_to HO9.out ht10 (fun k hk e => by omega)
                have HAK : Hid (∀ k, (Value.slice aa L.length acap).ownBlock = some k → k < (w8.setCell ⟨b, 3, none⟩ (.int .i64 ((s4.op : Int) + 1))).heap.size) := fun k hk => (own_block_lt HO9.out k hk).2
                have HKO : Hid (w10.ownsRow (w8.setCell ⟨b, 3, none⟩ (.int .i64 ((s4.op : Int) + 1))).heap.size 40 5 (.slice ka x.length kc) x.length xs) := hko
                have HFO : Hid (ForS (TreeS w10 d) Rf xs x) := hfo
                have HRF : Hid (∀ k, Rf k → (w8.setCell ⟨b, 3, none⟩ (.int .i64 ((s4.op : Int) + 1))).heap.size ≤ k ∧ k < w10.heap.size ∧ (Value.slice ka x.length kc).ownBlock ≠ some k) := hRf
                clear hsb hr10 ht10 HE9 HO9 hko hfo hRf HR9 h0 h1 h2 h3 f1 f2 f3 hb
                generalize (w8.setCell ⟨b, 3, none⟩ (.int .i64 ((s4.op : Int) + 1))).heap.size = Z at *
                have hZb : b < Z := by omega
                have hs5 : s5.op = s4.op + 1 := HP5.out.1
                have HS5 : Hid (s5.op = s4.op + 1) := hs5
                have hs5b : 1 ≤ s5.op ∧ s5.op ≤ 65 := by omega
                clear hs5
                obtain ⟨c0, c1, c2, c3, c4, cf⟩ := cells5 HE10.out.cel
                obtain ⟨h0, h1, h2, h3, f1, f2, f3, hb⟩ := HE10.out.rd.facts
                have hcb : w3.heap.size ≠ b := by omega
                have hcb' : b ≠ w3.heap.size := by omega
                -- kids stored; open one less
                have HE11 : Hid (ElSt w (w10.setCell ⟨w3.heap.size, 4, none⟩ (.slice ka x.length kc)) b tx w3.heap.size (ba n) (.slice aa L.length acap) (.slice ka x.length kc) s5) := HE10.out.set4 _
                have HR12 : Hid (Rd ((w10.setCell ⟨w3.heap.size, 4, none⟩ (.slice ka x.length kc)).setCell ⟨b, 3, none⟩ (.int .i64 ((s5.op : Int) - 1))) b tx { s5 with op := s5.op - 1 }) := HE11.out.rd.setOp _ (by omega)
                have HE12 : Hid (ElSt w ((w10.setCell ⟨w3.heap.size, 4, none⟩ (.slice ka x.length kc)).setCell ⟨b, 3, none⟩ (.int .i64 ((s5.op : Int) - 1))) b tx w3.heap.size (ba n) (.slice aa L.length acap) (.slice ka x.length kc) { s5 with op := s5.op - 1 }) := HE11.out.go HR12.out (turn_set (Turn.refl _ _) _ _)
                have HB12 : Hid (∀ k, k ≠ b → k ≠ w3.heap.size → ((w10.setCell ⟨w3.heap.size, 4, none⟩ (.slice ka x.length kc)).setCell ⟨b, 3, none⟩ (.int .i64 ((s5.op : Int) - 1))).heap[k]? = w10.heap[k]?) := fun k h1 h2 => by rw [Below.heap_setCell _ _ _ _ h1, Below.heap_setCell _ _ _ _ h2]
                have HZ12 : Hid (((w10.setCell ⟨w3.heap.size, 4, none⟩ (.slice ka x.length kc)).setCell ⟨b, 3, none⟩ (.int .i64 ((s5.op : Int) - 1))).heap.size = w10.heap.size) := by show _ = _; simp [World.setCell]
                have HK12 : Hid (Ok tx { s5 with op := s5.op - 1 }) := ⟨k1, HP5.out.2.at_, HP5.out.2.nodes, by have := HS4.out; have := HS5.out; simp only; omega⟩
                have hen := end_any _ b tx _ HR12.out HK12.out (ba n)
                rw [ba_list] at hen
                clear HE11
                cases hx6 : endP tx.data.toList n { s5 with op := s5.op - 1 } with
                | inr q_ =>
                  obtain ⟨p, e⟩ := q_
                  rw [hx6] at hen
                  have HG : Hid (elemP tx.data.toList (sibP tx.data.toList d) s = .inr (p, e)) := by
                    obtain ⟨c, e1, e2⟩ := HC47.out
                    show elemP _ _ _ = _; unfold elemP; simp only [HX1.out, HX2.out, HX3.out, e1, e2, HX4.out, HX5.out, hx6, if_false]
                  clear hx6
                  go_wp2_with fail
                  refine hen.mono ?_
                  rintro e w13 ⟨rfl, ht13⟩
                  exact ⟨rfl, Post.no HG.out (HE12.out.turn.trans ht13)⟩
                | inl q_ =>
                  obtain ⟨u6, s6⟩ := q_
                  rw [hx6] at hen
                  have HG : Hid (elemP tx.data.toList (sibP tx.data.toList d) s = .inl ((elT n L x), s6)) := by
                    obtain ⟨c, e1, e2⟩ := HC47.out
                    show elemP _ _ _ = _; unfold elemP; simp only [HX1.out, HX2.out, HX3.out, e1, e2, HX4.out, HX5.out, hx6, if_false]
                  clear hx6
                  go_wp2_with fail
                  refine hen.mono ?_
                  rintro e w13 ⟨rfl, hr13, ht13⟩
                  have HE13 : Hid (ElSt w w13 b tx w3.heap.size (ba n) (.slice aa L.length acap) (.slice ka x.length kc) s6) := HE12.out.go hr13 ht13
                  have HB13 : Hid (∀ k, k < w10.heap.size → k ≠ b → k ≠ w3.heap.size → w13.heap[k]? = w10.heap[k]?) := fun k h0 h1 h2 => (ht13.block k (by rw [HZ12.out]; exact h0) h1).trans (HB12.out k h1 h2)
                  have HZ13 : Hid (w10.heap.size ≤ w13.heap.size) := by have := ht13.size; rw [HZ12.out] at this; exact this
                  clear hen hr13 ht13 HE12 HB12 HR12 c0 c1 c2 c3 c4 cf h0 h1 h2 h3 f1 f2 f3 hb HE10
                  have key := el_ret (d := d) (x := x) (xs := xs) (Rf := Rf) HE13.out
                    (own_of_block HO10.out (fun k hk => HB13.out k (own_block_lt HO10.out k hk).2 (by have := (own_block_lt HO10.out k hk).1; omega) (by have := (own_block_lt HO10.out k hk).1; omega)))
                    hz3 g5 hxl
                    (own_base (own_of_block HKO.out (fun k hk => HB13.out k (own_block_lt HKO.out k hk).2 (by have := (own_block_lt HKO.out k hk).1; omega) (by have := (own_block_lt HKO.out k hk).1; omega))) (fun k hk => by have := (own_block_lt HKO.out k hk).1; omega))
                    (HFO.out.to (fun k hk => HB13.out k (HRF.out k hk).2.1 (by have := (HRF.out k hk).1; omega) (by have := (HRF.out k hk).1; omega)) (fun _ h => h))
                    (fun k hk => ⟨by have := (HRF.out k hk).1; omega, Nat.lt_of_lt_of_le (HRF.out k hk).2.1 HZ13.out, (HRF.out k hk).2.2, fun e => by have := HAK.out k e; have := (HRF.out k hk).1; omega⟩)
                    (fun k hk e => by have := HAK.out k e; have := (own_block_lt HKO.out k hk).1; omega)
                  obtain ⟨c0, c1, c2, c3, c4, cf⟩ := cells5 HE13.out.cel
                  obtain ⟨r0, r1, r2, r3, r4, rf⟩ := cells0 HE13.out.res
                  have hne : w.heap.size ≠ w3.heap.size := by omega
                  have hne' : w3.heap.size ≠ w.heap.size := by omega
                  have KEY : Hid _ := key
                  clear key HKO HFO HRF HAK HO10 HB13
                  go_wp2
                  obtain ⟨q1, q2, q3⟩ := KEY.out
                  exact bodyPost_ret (v := .agg (tv 1 (ba n) aa L.length acap ⟨#[]⟩ ka x.length kc)) (by simp [results, Tryz.results57, go_sem, tv, r0, r1, r2, r3, r4]) rfl (Post.yes HG.out ⟨_, _, rfl, q3, fun b h => h⟩ q1 q2)
        · rw [needP_no hl3] at hnd
          have HG : Hid (elemP tx.data.toList (sibP tx.data.toList d) s = .inr (s3.at_, 4)) := by
            show elemP _ _ _ = _; unfold elemP; simp only [HX1.out, HX2.out, HX3.out, get_no (Nat.le_of_not_lt hl3)]
          clear hl3
          go_wp2_with fail
          refine hnd.mono ?_
          rintro e w7 ⟨rfl, ht7⟩
          exact ⟨rfl, Post.no HG.out (HE6.out.turn.trans ht7)⟩

end Go.Proofs.YtmifejkddgcbmaaGreat
