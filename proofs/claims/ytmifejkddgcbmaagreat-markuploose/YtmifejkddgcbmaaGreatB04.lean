/- What is printed reads as it was, in plain: letters, texts, values, names, attributes. -/
import Derived.Test.YtmifejkddgcbmaaGreatB01
import Derived.Test.YtmifejkddgcbmaaGreatB03
import Derived.Test.YtmifejkddgcbmaaGreatA19
namespace Go.Proofs.YtmifejkddgcbmaaGreat
open Go.RowKit
set_option linter.unusedVariables false
set_option linter.unusedSimpArgs false

theorem drop_more {l x y : Bs} {a : Nat} (h : l.drop a = x ++ y) : l.drop (a + x.length) = y := by
  rw [← List.drop_drop, h, List.drop_left]
theorem get_drop {l r : Bs} {a : Nat} {b : UInt8} (h : l.drop a = b :: r) : l[a]? = some b := by
  have := congrArg (fun x => x[0]?) h
  simpa using this
theorem get_end {l : Bs} {a : Nat} (h : l.drop a = []) : l[a]? = none := by
  have := congrArg (fun x => x[0]?) h
  simpa using this
theorem drop_len {l r : Bs} {a : Nat} (h : l.drop a = r) : l.length - a = r.length := by rw [← h]; simp

/-- A character as it is printed, read. -/
theorem letter_piece {l : Bs} {s : St} {q : Bool} {r : Nat} {rest : Bs} (hc : Ch r) (h : l.drop s.at_ = piece q r ++ rest) : letterP l s = .inl (enc r, { s with at_ := s.at_ + (piece q r).length }) := by
  have hr : r ≤ 1114111 := by unfold Ch at hc; omega
  rcases escB_is r q with ⟨he, hn⟩ | ⟨rfl, he⟩ | ⟨rfl, he⟩ | ⟨rfl, he⟩ | ⟨rfl, he⟩ | ⟨hq, rfl, he⟩ | ⟨hq, rfl, he⟩ | ⟨hq, rfl, he⟩
  · have hp : piece q r = enc r := by rw [piece, if_pos he]
    rw [hp] at h ⊢
    have hf := first_enc hc rest
    obtain ⟨b, u, hbu⟩ : ∃ b u, enc r = b :: u := by
      cases hx : enc r with
      | nil => exact absurd hx enc_ne
      | cons b u => exact ⟨b, u, rfl⟩
    have hb : b.toNat ≠ 38 := by
      rcases Nat.lt_or_ge r 128 with h1 | h1
      · rw [enc_low h1] at hbu
        have : b = r.toUInt8 := ((List.cons.inj hbu).1).symm
        rw [this, u8n (by omega)]
        omega
      · have := enc_high h1 hr b (by rw [hbu]; simp)
        omega
    have hb' : ¬ b = 38 := fun e => hb (by rw [e]; rfl)
    have hx : l.drop s.at_ = b :: (u ++ rest) := by rw [h, hbu]; rfl
    have hf' : first (b :: (u ++ rest)) = some (r, (enc r).length) := by rw [hbu] at hf ⊢; exact hf
    unfold letterP
    rw [hx]
    simp only [hb', if_false, hf']
    have : (b :: (u ++ rest)).take (enc r).length = enc r := by
      rw [hbu]
      show List.take _ ((b :: u) ++ rest) = _
      rw [List.take_left]
    rw [this]
  all_goals
    have hp := he
    rw [piece, he, if_neg (by simp)] at h ⊢
    unfold letterP
    rw [h]
    simp [refOf, List.findIdx?_cons]
    rfl

theorem piece_head {q : Bool} {r : Nat} (hc : Ch r) : ∃ b u, piece q r = b :: u ∧ b ≠ 60 ∧ (q = true → b ≠ 34) := by
  cases hx : piece q r with
  | nil => have := piece_pos q r; rw [hx] at this; simp at this
  | cons b u =>
    have hm : b ∈ escL q (enc r) := by rw [escL_enc q hc, hx]; simp
    have h := esc_none q (enc r) b hm
    exact ⟨b, u, rfl, fun e => h.1 (by rw [e]; rfl), fun hq e => (h.2.2.2 hq).1 (by rw [e]; rfl)⟩

/-- What ends a text: the end, an end of an element, an element. -/
def Stop (rest : Bs) : Prop := rest = [] ∨ ∃ b r, rest = 60 :: b :: r ∧ (b = 47 ∨ beginB b.toNat = true)

theorem begin_ne {b : UInt8} (h : beginB b.toNat = true) : b ≠ 33 ∧ b ≠ 63 ∧ b ≠ 47 ∧ b ≠ 62 ∧ b ≠ 34 ∧ b ≠ 61 := by
  refine ⟨?_, ?_, ?_, ?_, ?_, ?_⟩ <;> (intro e; subst e; revert h; decide)

/-- At its end a text stands still. -/
theorem words_stop {l : Bs} {k : Nat} {s : St} {out rest : Bs} (h : l.drop s.at_ = rest) (hs : Stop rest) : wordsF l (k + 1) s out = .inl (out, s) := by
  rcases hs with rfl | ⟨b, r, rfl, hb⟩
  · rw [wordsF, get_end h]
  · have h33 : b ≠ 33 ∧ b ≠ 63 := by
      rcases hb with rfl | hb
      · exact ⟨by decide, by decide⟩
      · exact ⟨(begin_ne hb).1, (begin_ne hb).2.1⟩
    have hg1 : l[s.at_ + 1]? = some b := by
      have : l.drop (s.at_ + 1) = b :: r := by
        have := drop_more (x := [60]) (y := b :: r) (by rw [h]; rfl)
        simpa using this
      exact get_drop this
    have n1 : ¬ (33 : UInt8) = b := fun e => h33.1 e.symm
    have n2 : ¬ (63 : UInt8) = b := fun e => h33.2 e.symm
    have n3 : ¬ b = 33 := h33.1
    rw [wordsF, get_drop h]
    simp only [ne_eq, not_true_eq_false, if_false]
    have s1 : seesP l [60, 33, 45, 45] s.at_ = false := by simp [seesP, h, List.isPrefixOf, n1]
    have s2 : seesP l [60, 63] s.at_ = false := by simp [seesP, h, List.isPrefixOf, n2]
    have s3 : seesP l [60, 33, 91, 67, 68, 65, 84, 65, 91] s.at_ = false := by simp [seesP, h, List.isPrefixOf, n1]
    have s4 : breaksP l [60, 33, 45, 45] s.at_ = false := by simp [breaksP, h, List.isPrefixOf, n3]
    have s5 : breaksP l [60, 33, 91, 67, 68, 65, 84, 65, 91] s.at_ = false := by simp [breaksP, h, List.isPrefixOf, n3]
    have ht : tagP l s = .inl ((), s) := by
      unfold tagP
      rw [s4, s5]
      simp only [Bool.or_self, Bool.false_eq_true, if_false]
      rcases hb with rfl | hb
      · have : seesP l [60, 47] s.at_ = true := by simp [seesP, h, List.isPrefixOf]
        rw [this]; rfl
      · rw [hg1]
        simp only [hb, if_true]
        split <;> rfl
    simp only [s1, s2, s3, ht, Bool.false_eq_true, if_false]

/-- Where a text that was begun, or not, brings the count. -/
def bump (out : Bs) (rs : List Nat) (n : Nat) : Nat := if out = [] ∧ rs ≠ [] then n + 1 else n

theorem put_enc {s : St} {out : Bs} {r a : Nat} (hl : out.length + (enc r).length ≤ 16384) (hb : out = [] → s.nodes ≠ 4096 ∧ s.op ≠ 64) : putP s out (enc r) a = .inl (out ++ enc r, { s with nodes := if out = [] then s.nodes + 1 else s.nodes }) := by
  have hg : ¬ 16384 < out.length + (enc r).length := by omega
  unfold putP
  by_cases ho : out = []
  · obtain ⟨h1, h2⟩ := hb ho
    rw [if_pos ho, if_pos ho]
    simp only [beginP, h1, h2, or_self, if_false, growP, hg]
  · rw [if_neg ho, if_neg ho]
    simp only [growP, hg, if_false]

theorem words_read {l : Bs} : ∀ (rs : List Nat) (k : Nat) (s : St) (out rest : Bs), l.drop s.at_ = rs.flatMap (piece false) ++ rest → Stop rest → (∀ r ∈ rs, Ch r) → out.length + (bytes rs).length ≤ 16384 → (out = [] → rs ≠ [] → s.nodes ≠ 4096 ∧ s.op ≠ 64) → (rs.flatMap (piece false)).length + 1 ≤ k →
    wordsF l k s out = .inl (out ++ bytes rs, { s with at_ := s.at_ + (rs.flatMap (piece false)).length, nodes := bump out rs s.nodes })
  | [], k, s, out, rest, h, hs, _, _, _, hk => by
    obtain ⟨k', rfl⟩ : ∃ k', k = k' + 1 := ⟨k - 1, by omega⟩
    rw [words_stop (by simpa using h) hs]
    simp [bytes, bump]
  | r :: rs, k, s, out, rest, h, hs, hc, hl, hn, hk => by
    obtain ⟨k', rfl⟩ : ∃ k', k = k' + 1 := ⟨k - 1, by omega⟩
    have hcr : Ch r := hc r (by simp)
    obtain ⟨b, u, hbu, hb, -⟩ := piece_head (q := false) hcr
    have hh : l.drop s.at_ = piece false r ++ (rs.flatMap (piece false) ++ rest) := by rw [h, List.flatMap_cons, List.append_assoc]
    have hg : l[s.at_]? = some b := get_drop (r := u ++ (rs.flatMap (piece false) ++ rest)) (by rw [hh, hbu]; rfl)
    have hlt := letter_piece (s := s) hcr hh
    rw [bytes_cons, List.length_append] at hl
    have hpt := put_enc (s := { s with at_ := s.at_ + (piece false r).length }) (out := out) (r := r) (a := s.at_) (by omega) (fun ho => hn ho (by simp))
    have hp := piece_pos false r
    rw [List.flatMap_cons, List.length_append] at hk
    have hne : out ++ enc r ≠ [] := by
      intro e
      have := congrArg List.length e
      have h2 := enc_pos r
      simp at this
      rw [this.2] at h2
      simp at h2
    have ih := words_read rs k' { s with at_ := s.at_ + (piece false r).length, nodes := if out = [] then s.nodes + 1 else s.nodes } (out ++ enc r) rest (drop_more hh) hs (fun x hx => hc x (by simp [hx])) (by rw [List.length_append]; omega) (fun e => absurd e hne) (by omega)
    rw [wordsF, hg]
    simp only [ne_eq, hb, not_false_eq_true, if_true, hlt, hpt]
    rw [ih]
    rw [bytes_cons, List.append_assoc, List.flatMap_cons, List.length_append]
    have e1 : bump (out ++ enc r) rs (if out = [] then s.nodes + 1 else s.nodes) = bump out (r :: rs) s.nodes := by
      unfold bump
      rw [if_neg (fun h => hne h.1)]
      by_cases ho : out = [] <;> simp [ho]
    rw [e1, Nat.add_assoc]

theorem value_read {l : Bs} : ∀ (rs : List Nat) (k : Nat) (s : St) (out rest : Bs), l.drop s.at_ = rs.flatMap (piece true) ++ 34 :: rest → (∀ r ∈ rs, Ch r) → out.length + (bytes rs).length ≤ 16384 → (rs.flatMap (piece true)).length + 1 ≤ k →
    valueF l 34 k s out = .inl (out ++ bytes rs, { s with at_ := s.at_ + (rs.flatMap (piece true)).length + 1 })
  | [], k, s, out, rest, h, _, _, hk => by
    obtain ⟨k', rfl⟩ : ∃ k', k = k' + 1 := ⟨k - 1, by omega⟩
    rw [valueF, get_drop (r := rest) (by simpa using h)]
    simp [bytes]
  | r :: rs, k, s, out, rest, h, hc, hl, hk => by
    obtain ⟨k', rfl⟩ : ∃ k', k = k' + 1 := ⟨k - 1, by omega⟩
    have hcr : Ch r := hc r (by simp)
    obtain ⟨b, u, hbu, hb, hb2⟩ := piece_head (q := true) hcr
    have hh : l.drop s.at_ = piece true r ++ (rs.flatMap (piece true) ++ 34 :: rest) := by rw [h, List.flatMap_cons, List.append_assoc]
    have hg : l[s.at_]? = some b := get_drop (r := u ++ (rs.flatMap (piece true) ++ 34 :: rest)) (by rw [hh, hbu]; rfl)
    have hlt := letter_piece (s := s) hcr hh
    rw [bytes_cons, List.length_append] at hl
    have hgr : ¬ 16384 < out.length + (enc r).length := by omega
    have hp := piece_pos true r
    rw [List.flatMap_cons, List.length_append] at hk
    have ih := value_read rs k' { s with at_ := s.at_ + (piece true r).length } (out ++ enc r) rest (drop_more hh) (fun x hx => hc x (by simp [hx])) (by rw [List.length_append]; omega) (by omega)
    rw [valueF, hg]
    simp only [hb, hb2 rfl, if_false, hlt, growP, hgr]
    rw [ih]
    rw [bytes_cons, List.append_assoc, List.flatMap_cons, List.length_append]
    simp only [Nat.add_assoc]

/-- A name, and behind it something that is in none. -/
theorem name_read {l : Bs} {s : St} {n rest : Bs} (hn : nameL n = true) (h : l.drop s.at_ = n ++ rest) (hr : ∀ b r, rest = b :: r → inB b.toNat = false) : nameP l s = .inl (n, { s with at_ := s.at_ + n.length }) := by
  have hl := nameL_len hn
  obtain ⟨b, u, rfl⟩ : ∃ b u, n = b :: u := by
    cases n with
    | nil => simp at hl
    | cons b u => exact ⟨b, u, rfl⟩
  have h2 := hn
  unfold nameL at h2
  simp only [Bool.and_eq_true, List.take_succ_cons, List.take_zero, List.all_cons, List.all_nil, Bool.and_true] at h2
  have hb : beginB b.toNat = true := h2.1.2
  have hall : ∀ x ∈ b :: u, inB x.toNat = true := by
    have h3 : inB b.toNat = true ∧ ∀ x ∈ u, inB x.toNat = true := by simpa using h2.2
    intro x hx
    rcases List.mem_cons.1 hx with rfl | hx
    · exact h3.1
    · exact h3.2 x hx
  have htw : (l.drop s.at_).takeWhile (fun b => inB b.toNat) = b :: u := by
    rw [h, List.takeWhile_append_of_pos hall]
    cases rest with
    | nil => simp
    | cons c r => simp [hr c r rfl]
  unfold nameP
  rw [get_drop (r := u ++ rest) (by rw [h]; rfl)]
  simp only [hb, if_true, htw, hn, runN]

end Go.Proofs.YtmifejkddgcbmaaGreat

/- Print of the program: what a forest is in markup, or why it can't be. -/
namespace Go.Proofs.YtmifejkddgcbmaaGreat
open Go.RowKit
set_option linter.unusedVariables false
set_option linter.unusedSimpArgs false

/-- How many nodes a tree has. -/
def cnt : (n : Nat) → T n → Nat
  | 0, _ => 0
  | n + 1, t => 1 + ((kidsT t).map (cnt n)).sum
theorem chkL_cnt {n : Nat} {d : Int} (ih : ∀ (t : T n) (a : Int), (chk n t d a).2 = 0 → (chk n t d a).1 = a + cnt n t) : ∀ (L : List (T n)) (a : Int), (chkL (fun k x => chk n k d x) L a).2 = 0 → (chkL (fun k x => chk n k d x) L a).1 = a + ((L.map (cnt n)).sum : Nat)
  | [], a, _ => by simp [chkL]
  | k :: r, a, h => by
    rw [chkL] at h ⊢
    split at h
    · rename_i h0
      rw [if_pos h0]
      have h1 := chkL_cnt ih r _ h
      have h2 := ih k a h0
      rw [h1, h2]
      simp only [List.map_cons, List.sum_cons]
      omega
    · rename_i h0
      exact absurd h h0
theorem chk_cnt : ∀ (n : Nat) (t : T n) (d a : Int), (chk n t d a).2 = 0 → (chk n t d a).1 = a + cnt n t
  | 0, t, _, _, _ => (t : Empty).elim
  | n + 1, t, d, a, h => by
    rw [chk] at h ⊢
    split at h
    · rename_i h0; simp at h
    · rename_i h0
      rw [if_neg h0]
      split at h
      · rename_i h1
        rw [if_pos h1]
        have := chkL_cnt (fun t a h => chk_cnt n t (d + 1) a h) (kidsT t) (a + 1) h
        rw [this]
        simp only [cnt]
        omega
      · rename_i h1
        exact absurd h h1
theorem chkL_mem {n : Nat} {d : Int} : ∀ (L : List (T n)) (a : Int), (chkL (fun k x => chk n k d x) L a).2 = 0 → ∀ k ∈ L, ∃ x, (chk n k d x).2 = 0
  | [], _, _, k, hk => by simp at hk
  | j :: r, a, h, k, hk => by
    rw [chkL] at h
    split at h
    · rename_i h0
      rcases List.mem_cons.1 hk with rfl | hk
      · exact ⟨a, h0⟩
      · exact chkL_mem r _ h k hk
    · rename_i h0
      exact absurd h h0
theorem chk_okD : ∀ (n : Nat) (t : T n) (d : Nat) (a : Int), (chk n t d a).2 = 0 → okD n (65 - d) t
  | 0, t, _, _, _ => (t : Empty).elim
  | n + 1, t, d, a, h => by
    rw [chk] at h
    split at h
    · simp at h
    · rename_i h0
      split at h
      · rename_i h1
        refine ⟨by omega, h1, fun k hk => ?_⟩
        obtain ⟨x, hx⟩ := chkL_mem _ _ h k hk
        have := chk_okD n k (d + 1) x hx
        rwa [show 65 - (d + 1) = 65 - d - 1 by omega] at this
      · rename_i h1
        exact absurd h h1

/-- What is wrong first with the trees, one by one. -/
def chkF (n : Nat) : List (T n) → Int
  | [] => 0
  | k :: r => if (chk n k 1 0).2 = 0 then chkF n r else (chk n k 1 0).2
/-- Why a forest can't be. -/
def forE (n : Nat) (L : List (T n)) : Int := if chkF n L = 0 then (if 4096 < (L.map (cnt n)).sum then 2 else 0) else chkF n L
theorem chkF_at {n : Nat} {L : List (T n)} {i : Nat} {k : T n} (h : L[i]? = some k) : chkF n (L.drop i) = if (chk n k 1 0).2 = 0 then chkF n (L.drop (i + 1)) else (chk n k 1 0).2 := by
  have hlt := (List.getElem?_eq_some_iff.1 h).1
  rw [List.drop_eq_getElem_cons hlt, (List.getElem?_eq_some_iff.1 h).2, chkF]
theorem chkF_mem {n : Nat} : ∀ (L : List (T n)), chkF n L = 0 → ∀ k ∈ L, (chk n k 1 0).2 = 0
  | [], _, k, hk => by simp at hk
  | j :: r, h, k, hk => by
    rw [chkF] at h
    split at h
    · rename_i h0
      rcases List.mem_cons.1 hk with rfl | hk
      · exact h0
      · exact chkF_mem r h k hk
    · rename_i h0
      exact absurd h h0
/-- What Print answers. -/
def printP (n : Nat) (L : List (T n)) : Bs × Int := if forE n L = 0 then (if 262144 < (prF n L).length then ([], 2) else (prF n L, 0)) else ([], forE n L)

def CntAll (n : Nat) : Prop := ∀ (w : World) (u : Array Value) (t : T n) (lo : Nat), TreeAt w lo w.heap.size n u t → cnt n t ≤ 4096 → Calls Tryz.prog 37 #[.agg u] w fun e w' => e = .returned (.int .i64 (cnt n t : Int)) ∧ Below w.heap.size w w'

theorem sum_take {n : Nat} {L : List (T n)} {i : Nat} {k : T n} (h : L[i]? = some k) : ((L.take (i + 1)).map (cnt n)).sum = ((L.take i).map (cnt n)).sum + cnt n k := by
  rw [List.take_add_one, h]
  simp
theorem sum_le {n : Nat} (L : List (T n)) (i : Nat) : ((L.take i).map (cnt n)).sum ≤ (L.map (cnt n)).sum := by
  have : (L.map (cnt n)).sum = ((L.take i ++ L.drop i).map (cnt n)).sum := by rw [List.take_append_drop]
  rw [this, List.map_append, List.sum_append]
  omega
theorem TreeAt.after {w w' : World} {lo n : Nat} {v : Array Value} {t : T n} (h : TreeAt w lo w.heap.size n v t) (hb : Below w.heap.size w w') : TreeAt w' lo w'.heap.size n v t :=
  (h.below hb (Nat.le_refl _)).mono (Nat.le_refl _) hb.size

set_option maxRecDepth 100000 in
set_option maxHeartbeats 2000000 in
theorem count_any : ∀ n, CntAll n
  | 0 => fun _ _ _ _ h => h.elim
  | n + 1 => by
    intro w u t lo hT hc
    have ih := count_any n
    obtain ⟨aa, ac, ka, kc, rfl, -, hkl, -, -, hat, hkids⟩ := hT
    unfold tv
    unfold maxK at hkl
    by_cases hk : t.kind = 1
    · have hkT : kidsT t = t.kids := if_pos hk
      have hc1 : cnt (n + 1) t = 1 + (t.kids.map (cnt n)).sum := by rw [cnt, hkT]
      obtain ⟨w0, hw0⟩ : ∃ w0, w0 = w.alloc (.cells #[.int .i64 t.kind, .string t.name, .slice aa t.attrs.length ac, .string t.text, .slice ka t.kids.length kc] 40) := ⟨_, rfl⟩
      have HB0 : Hid (Below w.heap.size w w0) := by rw [hw0]; exact (Below.refl _ _).alloc (Nat.le_refl _) _
      have HKA : Hid (Tc.KidsAt w lo w.heap.size n ka t.kids) := hkids
      obtain ⟨c0, -, -, -, c4⟩ := cells5' w (.int .i64 t.kind) (.string t.name) (.slice aa t.attrs.length ac) (.string t.text) (.slice ka t.kids.length kc) 40
      rw [← hw0] at c0 c4
      have HC1 : Hid (cnt (n + 1) t = 1 + (t.kids.map (cnt n)).sum) := hc1
      have HCB : Hid (1 + (t.kids.map (cnt n)).sum ≤ 4096) := by show _ ≤ _; omega
      have HW0 : Hid (w0 = w.alloc (.cells #[.int .i64 t.kind, .string t.name, .slice aa t.attrs.length ac, .string t.text, .slice ka t.kids.length kc] 40)) := hw0
      rw [hk] at c0
      have hw0s : w.heap.size ≤ w0.heap.size := HB0.out.size
      clear hw0 hc1 hc hkids hat hkT hk
      go_enter Tryz.func37, Tryz.ntmps37
      go_upto_region 2 with fail
      rw [← HW0.out]
      clear HW0
      go_wp2
      go_loopw [3, 12] (fun v3 v12 wr => ∃ i : Nat, i ≤ t.kids.length ∧ v12 = .int .i64 (i : Int) ∧ v3 = .int .i64 ((1 + ((t.kids.take i).map (cnt n)).sum : Nat) : Int) ∧ Hid (Below w0.heap.size w0 wr)) (fun _ v12 _ => t.kids.length - (intOf v12).toNat)
      case atStart => exact ⟨0, by omega, rfl, by simp, Below.refl _ _⟩
      case round =>
        obtain ⟨i, hi, rfl, rfl, hb⟩ := hrel
        have hs := hb.out.size
        by_cases hlt : i < t.kids.length
        · have t1 : (i : Int) < (t.kids.length : Int) := by omega
          have t0 : (0 : Int) ≤ (i : Int) := by omega
          obtain ⟨k, hk⟩ : ∃ k, t.kids[i]? = some k := ⟨_, List.getElem?_eq_getElem hlt⟩
          obtain ⟨b, o, kk, nm, a, al, ac2, tx, ka', kl, kc2, rfl, -, hbl, c0, c1, c2, c3, c4, hT⟩ := HKA.out.get hk
          have HBW : Hid (Below w.heap.size w wr) := HB0.out.trans (hb.out.mono hw0s)
          have d0 := (HBW.out.cell (p := ⟨b, o + i * 5, none⟩) hbl).trans c0
          have d1 := (HBW.out.cell (p := ⟨b, o + i * 5 + 1, none⟩) hbl).trans c1
          have d2 := (HBW.out.cell (p := ⟨b, o + i * 5 + 2, none⟩) hbl).trans c2
          have d3 := (HBW.out.cell (p := ⟨b, o + i * 5 + 3, none⟩) hbl).trans c3
          have d4 := (HBW.out.cell (p := ⟨b, o + i * 5 + 4, none⟩) hbl).trans c4
          have hst := sum_take (n := n) hk
          have hsl := sum_le (n := n) t.kids (i + 1)
          have hcb := HCB.out
          have HST : Hid (((t.kids.take (i + 1)).map (cnt n)).sum = ((t.kids.take i).map (cnt n)).sum + cnt n k) := hst
          have hcall := ih (wr.alloc (.cells #[.int .i64 kk, .string nm, .slice a al ac2, .string tx, .slice ka' kl kc2] 40)) _ k lo ((hT.below HBW.out (Nat.le_refl _)).mono (Nat.le_refl _) (by omega) |>.after ((Below.refl _ _).alloc (Nat.le_refl _) _)) (by omega)
          have hb1 : 0 ≤ ((((t.kids.take i).map (cnt n)).sum : Nat) : Int) ∧ ((((t.kids.take i).map (cnt n)).sum : Nat) : Int) ≤ 4096 := by omega
          have hb2 : (cnt n k : Int) ≤ 4096 := by omega
          have HBA : Hid (Below w0.heap.size w0 (wr.alloc (.cells #[.int .i64 kk, .string nm, .slice a al ac2, .string tx, .slice ka' kl kc2] 40))) := hb.out.alloc (by omega) _
          clear hst hsl hcb hk hT c0 c1 c2 c3 c4
          generalize cnt n k = ck at *
          generalize hsm : ((t.kids.take i).map (cnt n)).sum = sm at *
          have HSM : Hid (((t.kids.take i).map (cnt n)).sum = sm) := hsm
          clear hsm
          go_wp2_with fail
          refine hcall.mono ?_
          rintro e w2 ⟨rfl, hb2⟩
          have HB2 : Hid (Below w0.heap.size w0 w2) := HBA.out.trans (hb2.mono (by simp; omega))
          clear hcall hb2
          go_wp2
          refine ⟨⟨i + 1, by omega, by simp, ?_, HB2⟩, ?_⟩
          · rw [HST.out]
            exact congrArg _ (by omega)
          · simp [intOf]; omega
        · have t1 : ¬ (i : Int) < (t.kids.length : Int) := by omega
          have hie : i = t.kids.length := by omega
          have HE : Hid ((1 + ((t.kids.take i).map (cnt n)).sum : Nat) = cnt (n + 1) t) := by show _ = _; rw [HC1.out, hie, List.take_length]
          clear hie
          generalize (1 + ((t.kids.take i).map (cnt n)).sum : Nat) = sm at *
          go_wp2
          go_ret
          exact ⟨by rw [← HE.out]; rfl, HB0.out.trans (hb.out.mono hw0s)⟩
    · have hkT : kidsT t = [] := if_neg hk
      have hc1 : cnt (n + 1) t = 1 := by rw [cnt, hkT]; rfl
      have e1 : (t.kind == 1) = false := beq_eq_false_iff_ne.2 hk
      have HC : Hid (cnt (n + 1) t = 1) := hc1
      clear hc1 hk hat hkids hc ih hkT
      go_enter Tryz.func37, Tryz.ntmps37
      go_wp2
      go_ret
      exact ⟨by rw [HC.out]; rfl, (Below.refl _ _).alloc (Nat.le_refl _) _⟩

set_option maxRecDepth 100000 in
set_option maxHeartbeats 2000000 in
theorem check_f (n : Nat) (w : World) (lo : Nat) (ka : Option Addr) (L : List (T n)) (cap : Nat) (h : Tc.KidsAt w lo w.heap.size n ka L) (hl : L.length ≤ maxK) :
    Calls Tryz.prog 25 #[.slice ka L.length cap] w fun e w' => e = .returned (.int .i64 (forE n L)) ∧ Below w.heap.size w w' := by
  have HK : Hid (Tc.KidsAt w lo w.heap.size n ka L) := h
  unfold maxK at hl
  clear h
  go_enter Tryz.func25, Tryz.ntmps25
  go_wp2
  go_loopw [3, 9] (fun v3 v9 wr => ∃ i sm : Nat, i ≤ L.length ∧ v9 = .int .i64 (i : Int) ∧ v3 = .int .i64 (sm : Int) ∧ sm ≤ 4096 * i ∧ Hid (((L.take i).map (cnt n)).sum = sm ∧ chkF n L = chkF n (L.drop i)) ∧ Hid (Below w.heap.size w wr)) (fun _ v9 _ => L.length - (intOf v9).toNat)
  case atStart => exact ⟨0, 0, by omega, rfl, rfl, by omega, ⟨by simp, by simp⟩, Below.refl _ _⟩
  case round =>
    obtain ⟨i, sm, hi, rfl, rfl, hsm, hg, hb⟩ := hrel
    have hs := hb.out.size
    by_cases hlt : i < L.length
    · have t1 : (i : Int) < (L.length : Int) := by omega
      have t0 : (0 : Int) ≤ (i : Int) := by omega
      obtain ⟨k, hk⟩ : ∃ k, L[i]? = some k := ⟨_, List.getElem?_eq_getElem hlt⟩
      obtain ⟨b, o, kk, nm, a, al, ac2, tx, ka', kl, kc2, rfl, -, hbl, c0, c1, c2, c3, c4, hT⟩ := HK.out.get hk
      have d0 := (hb.out.cell (p := ⟨b, o + i * 5, none⟩) hbl).trans c0
      have d1 := (hb.out.cell (p := ⟨b, o + i * 5 + 1, none⟩) hbl).trans c1
      have d2 := (hb.out.cell (p := ⟨b, o + i * 5 + 2, none⟩) hbl).trans c2
      have d3 := (hb.out.cell (p := ⟨b, o + i * 5 + 3, none⟩) hbl).trans c3
      have d4 := (hb.out.cell (p := ⟨b, o + i * 5 + 4, none⟩) hbl).trans c4
      obtain ⟨w0, hw0⟩ : ∃ w0, w0 = wr.alloc (.cells #[.int .i64 kk, .string nm, .slice a al ac2, .string tx, .slice ka' kl kc2] 40) := ⟨_, rfl⟩
      have HB0 : Hid (Below wr.heap.size wr w0) := by rw [hw0]; exact (Below.refl _ _).alloc (Nat.le_refl _) _
      have hT0 : TreeAt w0 lo w0.heap.size n #[.int .i64 kk, .string nm, .slice a al ac2, .string tx, .slice ka' kl kc2] k := by
        have h1 : TreeAt wr lo wr.heap.size n _ k := hT.after hb.out
        exact h1.after HB0.out
      have hck := Tc.Check_any n w0 _ k lo w0.heap.size hT0 (Nat.le_refl _)
      obtain ⟨e0, e1, e2, e3, e4⟩ := cells5' wr (.int .i64 kk) (.string nm) (.slice a al ac2) (.string tx) (.slice ka' kl kc2) 40
      rw [← hw0] at e0 e1 e2 e3 e4
      have hlw : wr.heap.size < w0.heap.size := by rw [hw0]; simp
      have HT0 : Hid (TreeAt w0 lo w0.heap.size n #[.int .i64 kk, .string nm, .slice a al ac2, .string tx, .slice ka' kl kc2] k) := hT0
      have HST : Hid (((L.take (i + 1)).map (cnt n)).sum = ((L.take i).map (cnt n)).sum + cnt n k) := sum_take hk
      have HCF : Hid (chkF n (L.drop i) = if (chk n k 1 0).2 = 0 then chkF n (L.drop (i + 1)) else (chk n k 1 0).2) := chkF_at hk
      have HCC : Hid ((chk n k 1 0).2 = 0 → cnt n k ≤ 4096) := fun h0 => by
        have h1 := chk_cnt n k 1 0 h0
        have h2 := Tc.chk_le n k 1 0 (by omega)
        omega
      have HW0 : Hid (w0 = wr.alloc (.cells #[.int .i64 kk, .string nm, .slice a al ac2, .string tx, .slice ka' kl kc2] 40)) := hw0
      have HBW : Hid (Below w.heap.size w w0) := hb.out.trans (HB0.out.mono hs)
      have hs0 := HBW.out.size
      clear hw0 hk hT hT0 c0 c1 c2 c3 c4
      go_upto_region 5 with fail
      rw [← HW0.out]
      clear HW0 d0 d1 d2 d3 d4
      by_cases hz : (chk n k 1 0).2 = 0
      · have hcc := HCC.out hz
        rw [hz] at hck
        have hcn := fun W (hbW : Below w0.heap.size w0 W) => count_any n W _ k lo (HT0.out.after hbW) hcc
        have HGN : Hid (((L.take (i + 1)).map (cnt n)).sum = sm + cnt n k ∧ chkF n L = chkF n (L.drop (i + 1))) := ⟨by rw [HST.out, hg.out.1], by rw [hg.out.2, HCF.out, if_pos hz]⟩
        have HCN : Hid _ := hcn
        clear hz HCF HST HCC hcn hg
        generalize cnt n k = ck at *
        go_wp2_with fail
        refine hck.mono ?_
        rintro e w2 ⟨rfl, hb2⟩
        have hcall := HCN.out w2 hb2
        have f0 := (hb2.cell (p := ⟨wr.heap.size, 0, none⟩) hlw).trans e0
        have f1 := (hb2.cell (p := ⟨wr.heap.size, 1, none⟩) hlw).trans e1
        have f2 := (hb2.cell (p := ⟨wr.heap.size, 2, none⟩) hlw).trans e2
        have f3 := (hb2.cell (p := ⟨wr.heap.size, 3, none⟩) hlw).trans e3
        have f4 := (hb2.cell (p := ⟨wr.heap.size, 4, none⟩) hlw).trans e4
        have HB2 : Hid (Below w.heap.size w w2) := HBW.out.trans (hb2.mono hs0)
        have hs2 := HB2.out.size
        clear hck hb2 e0 e1 e2 e3 e4 HCN HT0
        go_wp2_with fail
        refine hcall.mono ?_
        rintro e w3 ⟨rfl, hb3⟩
        have HB3 : Hid (Below w.heap.size w w3) := HB2.out.trans (hb3.mono hs2)
        clear hcall hb3
        go_wp2
        refine ⟨⟨i + 1, sm + ck, by omega, by simp, by simp, by omega, HGN, HB3⟩, ?_⟩
        simp [intOf]; omega
      · have hbz : ((chk n k 1 0).2 != 0) = true := by simpa using hz
        have HF : Hid (forE n L = (chk n k 1 0).2) := by
          show forE n L = _
          have : chkF n L = (chk n k 1 0).2 := by rw [hg.out.2, HCF.out, if_neg hz]
          unfold forE
          rw [this, if_neg hz]
        clear hz HCF HST HCC hg HT0
        generalize (chk n k 1 0).2 = z at *
        go_wp2_with fail
        refine hck.mono ?_
        rintro e w2 ⟨rfl, hb2⟩
        have HB2 : Hid (Below w.heap.size w w2) := HBW.out.trans (hb2.mono hs0)
        clear hck hb2 e0 e1 e2 e3 e4
        go_wp2
        go_ret
        exact ⟨by rw [HF.out]; rfl, HB2.out⟩
    · have t1 : ¬ (i : Int) < (L.length : Int) := by omega
      have hie : i = L.length := by omega
      have hs1 : (L.map (cnt n)).sum = sm := by
        have := hg.out.1
        rwa [hie, List.take_length] at this
      have hs2 : chkF n L = 0 := by rw [hg.out.2, List.drop_eq_nil_of_le (by omega)]; rfl
      by_cases hb4 : 4096 < sm
      · have t2 : (4096 : Int) < (sm : Int) := by omega
        have HF : Hid (forE n L = 2) := by show _ = _; unfold forE; rw [if_pos hs2, hs1, if_pos hb4]
        clear hs1 hs2 hie hg
        go_wp2
        go_ret
        exact ⟨by rw [HF.out]; rfl, hb.out⟩
      · have t2 : ¬ (4096 : Int) < (sm : Int) := by omega
        have HF : Hid (forE n L = 0) := by show _ = _; unfold forE; rw [if_pos hs2, hs1, if_neg hb4]
        clear hs1 hs2 hie hg
        go_wp2
        go_ret
        exact ⟨by rw [HF.out]; rfl, hb.out⟩

end Go.Proofs.YtmifejkddgcbmaaGreat

/- What is printed reads as it was, in plain: attributes, elements, forests. -/
namespace Go.Proofs.YtmifejkddgcbmaaGreat
open Go.RowKit
set_option linter.unusedVariables false
set_option linter.unusedSimpArgs false

theorem begin_blank {b : UInt8} (h : beginB b.toNat = true) : blankB b.toNat = false := by
  have hb := b.toNat_lt
  unfold beginB at h
  unfold blankB
  simp only [decide_eq_true_eq, decide_eq_false_iff_not] at h ⊢
  omega
theorem blanks_none {l : Bs} {s : St} {b : UInt8} {r : Bs} (h : l.drop s.at_ = b :: r) (hb : blankB b.toNat = false) : blanksP l s = s := by
  unfold blanksP runN
  rw [h]
  simp [hb]
theorem blanks_one {l : Bs} {s : St} {b : UInt8} {r : Bs} (h : l.drop s.at_ = 32 :: b :: r) (hb : blankB b.toNat = false) : blanksP l s = { s with at_ := s.at_ + 1 } := by
  have h32 : blankB 32 = true := by decide
  unfold blanksP runN
  rw [h]
  simp [hb, h32]

theorem name_head {n : Bs} (h : nameL n = true) : ∃ b u, n = b :: u ∧ beginB b.toNat = true := by
  have hl := nameL_len h
  cases n with
  | nil => simp at hl
  | cons b u =>
    unfold nameL at h
    simp only [Bool.and_eq_true, List.take_succ_cons, List.take_zero, List.all_cons, List.all_nil, Bool.and_true] at h
    exact ⟨b, u, rfl, h.1.2⟩

theorem ba_data (x : ByteArray) : ba x.data.toList = x := by
  cases x; rfl

/-- A text that can be, as it is printed. -/
theorem eans_piece {q : Bool} {x : Bs} (h : (tans x).2 = 0) : (eans q x).1 = (scan x).1.flatMap (piece q) ∧ bytes (scan x).1 = x ∧ (∀ r ∈ (scan x).1, Ch r) ∧ x.length ≤ 16384 := by
  obtain ⟨h1, h2, h3⟩ := tans_ok h
  refine ⟨?_, h2.symm, h3, h1⟩
  rw [eans, if_pos h]
  show escL q x = _
  rw [← escL_bytes q _ h3, ← h2]

theorem prA_eq {p : Att} (h : (tans p.2.data.toList).2 = 0) : prA p = 32 :: (p.1.data.toList ++ (61 :: 34 :: ((scan p.2.data.toList).1.flatMap (piece true) ++ [34]))) := by
  unfold prA
  rw [(eans_piece h).1]
  simp

theorem attr_read {l : Bs} {s : St} {p : Att} {acc : List Att} {rest : Bs} (hn : nameL p.1.data.toList = true) (hv : (tans p.2.data.toList).2 = 0) (h : l.drop s.at_ = p.1.data.toList ++ (61 :: 34 :: ((scan p.2.data.toList).1.flatMap (piece true) ++ 34 :: rest))) (hl : acc.length < 32) (hd : ∀ x ∈ acc, x.1.toList ≠ p.1.toList) :
    attrP l acc s = .inl (p, { s with at_ := s.at_ + p.1.data.toList.length + 2 + ((scan p.2.data.toList).1.flatMap (piece true)).length + 1 }) := by
  obtain ⟨e1, e2, e3, e4⟩ := eans_piece (q := true) hv
  have i61 : inB (61 : UInt8).toNat = false := by decide
  have hnm := name_read (s := s) hn h (fun b r e => by cases e; exact i61)
  have h1 := drop_more h
  have h2 : l.drop (s.at_ + p.1.data.toList.length + 1) = 34 :: ((scan p.2.data.toList).1.flatMap (piece true) ++ 34 :: rest) := by
    have := drop_more (x := [61]) (y := 34 :: ((scan p.2.data.toList).1.flatMap (piece true) ++ 34 :: rest)) (by rw [h1]; rfl)
    simpa using this
  have h3 : l.drop (s.at_ + p.1.data.toList.length + 1 + 1) = (scan p.2.data.toList).1.flatMap (piece true) ++ 34 :: rest := by
    have := drop_more (x := [34]) (y := (scan p.2.data.toList).1.flatMap (piece true) ++ 34 :: rest) (by rw [h2]; rfl)
    simpa using this
  have hx : expectP l 61 { s with at_ := s.at_ + p.1.data.toList.length } = .inl ((), { s with at_ := s.at_ + p.1.data.toList.length + 1 }) := by
    unfold expectP
    rw [get_drop h1]
    simp
  have hlen := drop_len h2
  have hvf := value_read (scan p.2.data.toList).1 (l.length - (s.at_ + p.1.data.toList.length + 1)) { s with at_ := s.at_ + p.1.data.toList.length + 1 + 1 } [] rest h3 e3 (by rw [e2]; simpa using e4) (by rw [hlen]; simp)
  have hvp : valueP l { s with at_ := s.at_ + p.1.data.toList.length + 1 } = .inl (p.2.data.toList, { s with at_ := s.at_ + p.1.data.toList.length + 1 + 1 + ((scan p.2.data.toList).1.flatMap (piece true)).length + 1 }) := by
    unfold valueP
    rw [get_drop h2]
    simp only [true_or, if_true]
    rw [hvf, e2]
    rfl
  have ha : acc.any (fun x => x.1.toList == (ba p.1.data.toList).toList) = false := by
    rw [ba_data]
    rw [List.any_eq_false]
    intro x hx
    simpa using hd x hx
  unfold attrP
  rw [hnm]
  simp only [Nat.ne_of_lt hl, if_false, ha, Bool.false_eq_true, hx, hvp]
  rw [ba_data, ba_data]

theorem attrs_read {l : Bs} : ∀ (al : List Att) (k : Nat) (s : St) (acc : List Att) (b : UInt8) (rest : Bs), l.drop s.at_ = al.flatMap prA ++ b :: rest → (b = 47 ∨ b = 62) → (∀ p ∈ al, nameL p.1.data.toList = true ∧ (tans p.2.data.toList).2 = 0) → (acc ++ al).length ≤ 32 → Dist (acc ++ al) → al.length + 1 ≤ k →
    attrsF l k s acc = .inl (sortA (acc ++ al), { s with at_ := s.at_ + (al.flatMap prA).length })
  | [], k, s, acc, b, rest, h, hb, _, _, _, hk => by
    obtain ⟨k', rfl⟩ : ∃ k', k = k' + 1 := ⟨k - 1, by omega⟩
    have hbl : blankB b.toNat = false := by rcases hb with rfl | rfl <;> decide
    have h' : l.drop s.at_ = b :: rest := by simpa using h
    rw [attrsF, blanks_none h' hbl, get_drop h']
    simp [hb]
  | p :: al, k, s, acc, b, rest, h, hb, ha, hl, hd, hk => by
    obtain ⟨k', rfl⟩ : ∃ k', k = k' + 1 := ⟨k - 1, by simp at hk; omega⟩
    obtain ⟨hn, hv⟩ := ha p (by simp)
    obtain ⟨c, u, hcu, hc⟩ := name_head hn
    have hpr := prA_eq (p := p) hv
    have h1 : l.drop s.at_ = 32 :: (p.1.data.toList ++ (61 :: 34 :: ((scan p.2.data.toList).1.flatMap (piece true) ++ 34 :: (al.flatMap prA ++ b :: rest)))) := by
      rw [h, List.flatMap_cons, hpr]
      simp [List.append_assoc]
    have hbl := begin_blank hc
    have h1' : l.drop s.at_ = 32 :: c :: (u ++ (61 :: 34 :: ((scan p.2.data.toList).1.flatMap (piece true) ++ 34 :: (al.flatMap prA ++ b :: rest)))) := by rw [h1, hcu]; rfl
    have hb1 := blanks_one h1' hbl
    have h2 : l.drop (s.at_ + 1) = p.1.data.toList ++ (61 :: 34 :: ((scan p.2.data.toList).1.flatMap (piece true) ++ 34 :: (al.flatMap prA ++ b :: rest))) := by
      have := drop_more (x := [32]) (by rw [h1]; rfl)
      simpa using this
    have hlen : acc.length < 32 := by simp at hl; omega
    have hne : ∀ x ∈ acc, x.1.toList ≠ p.1.toList := by
      intro x hx
      have := List.pairwise_append.1 hd
      exact this.2.2 x hx p (by simp)
    have hat := attr_read (s := { s with at_ := s.at_ + 1 }) hn hv h2 hlen hne
    have hg : l[s.at_ + 1]? = some c := get_drop (by rw [h2, hcu]; rfl)
    have hc4 : ¬ (c = 47 ∨ c = 62) := by
      have := begin_ne hc
      exact fun e => e.elim this.2.2.1 this.2.2.2.1
    have hfin : l.drop (s.at_ + (prA p).length) = al.flatMap prA ++ b :: rest := by
      have := drop_more (l := l) (a := s.at_) (x := prA p) (y := al.flatMap prA ++ b :: rest) (by rw [h, List.flatMap_cons, List.append_assoc])
      exact this
    have hln : (prA p).length = 1 + (p.1.data.toList.length + 2 + ((scan p.2.data.toList).1.flatMap (piece true)).length + 1) := by
      rw [hpr]; simp; omega
    have hstate : ({ s with at_ := s.at_ + 1 + p.1.data.toList.length + 2 + ((scan p.2.data.toList).1.flatMap (piece true)).length + 1 } : St) = { s with at_ := s.at_ + (prA p).length } := by
      rw [hln]; congr 1; omega
    have ih := attrs_read al k' { s with at_ := s.at_ + (prA p).length } (acc ++ [p]) b rest hfin hb (fun x hx => ha x (by simp [hx])) (by simpa using hl) (by simpa using hd) (by simp at hk; omega)
    rw [attrsF, hb1]
    simp only [hg, hc4, if_false]
    rw [if_neg (by omega)]
    rw [hat]
    simp only
    rw [hstate, ih]
    simp [List.flatMap_cons, Nat.add_assoc]

/-- Attributes that can be are in their order. -/
theorem attrsGo_lt : ∀ (l : List Att) (prev : Option ByteArray), attrsGo prev l = 0 → (∀ q, prev = some q → ∀ p ∈ l, q.toList < p.1.toList) ∧ l.Pairwise fun a b => a.1.toList < b.1.toList
  | [], _, _ => ⟨fun _ _ p hp => by simp at hp, List.Pairwise.nil⟩
  | p :: r, prev, h => by
    rw [attrsGo] at h
    split at h
    · omega
    · rename_i h1
      split at h
      · obtain ⟨i1, i2⟩ := attrsGo_lt r (some p.1) h
        have hp := i1 p.1 rfl
        refine ⟨fun q hq x hx => ?_, List.pairwise_cons.2 ⟨fun x hx => hp x hx, i2⟩⟩
        have hqp : q.toList < p.1.toList := by
          have hle : leB p.1 q = false := by
            cases hl : leB p.1 q
            · rfl
            · exact absurd (.inr ⟨q, hq, hl⟩) h1
          unfold leB at hle
          simp only [Bool.or_eq_false_iff, beq_eq_false_iff_ne] at hle
          have := ltA_tri (a := (q, q)) (b := p) (fun e => hle.2 e.symm) hle.1
          rw [ltA_eq] at this
          simpa using this
        rcases List.mem_cons.1 hx with rfl | hx
        · exact hqp
        · exact List.lt_trans hqp (hp x hx)
      · rename_i h2
        exact absurd h h2
theorem attrs_sorted {l : List Att} (h : attrsGo none l = 0) : Dist l ∧ sortA l = l := by
  obtain ⟨-, hp⟩ := attrsGo_lt l none h
  have hd : Dist l := hp.imp (fun {a b} hab e => by rw [e] at hab; exact List.lt_irrefl _ hab)
  refine ⟨hd, ?_⟩
  refine (uniq_sorted (lt := fun a b => ltA a b = true) ltA_irr ltA_asym _ _ (sortA_perm l) (sortA_strict hd) (hp.imp (fun {a b} hab => ?_)))
  rw [ltA_eq]; simpa using hab

end Go.Proofs.YtmifejkddgcbmaaGreat
