/- What is printed reads as it was, in plain: elements, forests. -/
import Derived.Test.YtmifejkddgcbmaaGreatB04
import Derived.Test.YtmifejkddgcbmaaGreatA24
import Derived.Test.YtmifejkddgcbmaaGreatA21
namespace Go.Proofs.YtmifejkddgcbmaaGreat
open Go.RowKit
set_option linter.unusedVariables false
set_option linter.unusedSimpArgs false

def kindT (n : Nat) (t : T n) : Int := (headT n t).1
/-- No two texts right behind each other. -/
def noTwo (n : Nat) : List (T n) → Prop
  | [] => True
  | [_] => True
  | a :: b :: r => ¬ (kindT n a = 2 ∧ kindT n b = 2) ∧ noTwo n (b :: r)
/-- A tree as Parse makes it. -/
def canT : (n : Nat) → T n → Prop
  | 0, _ => False
  | n + 1, t => (t.kind = 2 ∧ t = txtT t.text.data.toList ∧ t.text.data.toList ≠ []) ∨ (t.kind = 1 ∧ t = elT t.name.data.toList t.attrs t.kids ∧ (∀ k ∈ t.kids, canT n k) ∧ noTwo n t.kids)
/-- A forest as Parse makes it, that can be. -/
def Canon (n : Nat) (L : List (T n)) : Prop := (∀ t ∈ L, canT n t ∧ okD n n t) ∧ noTwo n L

theorem noTwo.tail {n : Nat} {a : T n} {L : List (T n)} (h : noTwo n (a :: L)) : noTwo n L := by
  cases L with
  | nil => trivial
  | cons b r => exact h.2

theorem hollow_nil {n : Nat} {L : List (T n)} (h : ∀ t ∈ L, canT n t) : hollowP n L = true ↔ L = [] := by
  cases L with
  | nil => simp [hollowP]
  | cons t r =>
    refine ⟨fun hh => ?_, fun e => by simp at e⟩
    exfalso
    have ht := h t (by simp)
    cases n with
    | zero => exact ht
    | succ m =>
      simp only [hollowP, List.all_cons, Bool.and_eq_true, decide_eq_true_eq, beq_iff_eq] at hh
      rcases ht with ⟨h1, h2, h3⟩ | ⟨h1, -⟩
      · have : t.text.toList = [] := hh.1.2
        rw [ByteArray.toList_eq] at this
        exact h3 this
      · have : t.kind = 2 := hh.1.1
        omega

/-- The beginning of a tree in print. -/
theorem prT_head {n : Nat} {r : Nat} {t : T n} (hk : kindT n t ≠ 2) (hok : okD n r t) : ∃ b u, prT n t = 60 :: b :: u ∧ beginB b.toNat = true := by
  cases n with
  | zero => exact (t : Empty).elim
  | succ m =>
    obtain ⟨-, ho, -⟩ := hok
    obtain ⟨h1, h2, -⟩ := own_el ho hk
    obtain ⟨b, u, hbu, hb⟩ := name_head h2
    have hk2 : ¬ t.kind = 2 := hk
    refine ⟨b, u ++ (t.attrs.flatMap prA ++ (if hollowP m t.kids then [47, 62] else [62] ++ t.kids.flatMap (prT m) ++ ([60, 47] ++ t.name.data.toList ++ [62]))), ?_, hb⟩
    show (if t.kind = 2 then _ else _) = _
    rw [if_neg hk2, prH, hbu]
    simp [List.append_assoc]

theorem stop_tree {n r : Nat} {t : T n} (hk : kindT n t ≠ 2) (hok : okD n r t) (rest : Bs) : Stop (prT n t ++ rest) := by
  obtain ⟨b, u, h, hb⟩ := prT_head hk hok
  exact .inr ⟨b, u ++ rest, by rw [h]; rfl, .inr hb⟩

/-- The end of siblings: the end, or an element's end. -/
def Fin (rest : Bs) : Prop := rest = [] ∨ ∃ r, rest = 60 :: 47 :: r
theorem Fin.stop {rest : Bs} (h : Fin rest) : Stop rest := by
  rcases h with h | ⟨r, h⟩
  · exact .inl h
  · exact .inr ⟨47, r, h, .inl rfl⟩
theorem Fin.sees {l rest : Bs} {a : Nat} (h : Fin rest) (hd : l.drop a = rest) (ha : a ≤ l.length) : a = l.length ∨ seesP l [60, 47] a = true := by
  rcases h with rfl | ⟨r, rfl⟩
  · have := drop_len hd
    left; simp at this; omega
  · right
    simp [seesP, hd, List.isPrefixOf]

def SibRt (l : Bs) (d : Nat) : Prop := ∀ (L : List (T d)) (s : St) (rest : Bs), l.drop s.at_ = prF d L ++ rest → Fin rest → s.at_ ≤ l.length → Canon d L → s.op + d = 64 → s.nodes + (L.map (cnt d)).sum ≤ 4096 →
  sibP l d s = .inl (L, { s with at_ := s.at_ + (prF d L).length, nodes := s.nodes + (L.map (cnt d)).sum })

/-- A text in print, read: with nothing ahead of it. -/
theorem wordsP_read {l x rest : Bs} {s : St} (hx : (tans x).2 = 0) (h : l.drop s.at_ = (eans false x).1 ++ rest) (hs : Stop rest) (hn : x ≠ [] → s.nodes ≠ 4096 ∧ s.op ≠ 64) :
    wordsP l s = .inl (x, { s with at_ := s.at_ + (eans false x).1.length, nodes := if x = [] then s.nodes else s.nodes + 1 }) := by
  obtain ⟨e1, e2, e3, e4⟩ := eans_piece (q := false) hx
  rw [e1] at h ⊢
  have hz : (scan x).1 = [] ↔ x = [] := by
    constructor
    · intro e; rw [e] at e2; exact e2.symm
    · intro e
      cases hsc : (scan x).1 with
      | nil => rfl
      | cons r rs =>
        rw [hsc, bytes_cons] at e2
        have h1 := enc_pos r
        have h2 := congrArg List.length e2
        rw [e, List.length_append, List.length_nil] at h2
        omega
  have hlen := drop_len h
  have := words_read (scan x).1 (l.length - s.at_ + 1) s [] rest h hs e3 (by rw [e2]; simpa using e4) (fun _ hne => hn (fun e => hne (hz.2 e))) (by rw [hlen]; simp)
  unfold wordsP
  rw [this, e2, List.nil_append]
  have hb : bump [] (scan x).1 s.nodes = if x = [] then s.nodes else s.nodes + 1 := by
    unfold bump
    by_cases hxe : x = []
    · rw [if_pos hxe, if_neg (fun h => h.2 (hz.2 hxe))]
    · rw [if_neg hxe, if_pos ⟨rfl, fun e => hxe (hz.1 e)⟩]
  rw [hb]

theorem tans_nil : (tans []).2 = 0 := by decide
theorem eans_nil : (eans false []).1 = [] := by decide
theorem wordsP_none {l rest : Bs} {s : St} (h : l.drop s.at_ = rest) (hs : Stop rest) : wordsP l s = .inl ([], s) := by
  have := wordsP_read (x := []) (rest := rest) (s := s) tans_nil (by rw [eans_nil]; exact h) hs (fun e => absurd rfl e)
  rw [this, eans_nil]
  simp

theorem expect_read {l r : Bs} {s : St} {c : UInt8} (h : l.drop s.at_ = c :: r) : expectP l c s = .inl ((), { s with at_ := s.at_ + 1 }) := by
  unfold expectP
  rw [get_drop h]
  simp
theorem drop_one {l r : Bs} {a : Nat} {c : UInt8} (h : l.drop a = c :: r) : l.drop (a + 1) = r := by
  have := drop_more (x := [c]) (y := r) (by rw [h]; rfl)
  simpa using this

theorem drop_lt {l r : Bs} {a : Nat} {c : UInt8} (h : l.drop a = c :: r) : a < l.length := by
  have := drop_len h
  rw [List.length_cons] at this
  omega

theorem end_read {l n rest : Bs} {s : St} (hn : nameL n = true) (h : l.drop s.at_ = [60, 47] ++ n ++ [62] ++ rest) : endP l n s = .inl ((), { s with at_ := s.at_ + (n.length + 3) }) := by
  have i62 : inB (62 : UInt8).toNat = false := by decide
  have b62 : blankB (62 : UInt8).toNat = false := by decide
  have h0 : l.drop s.at_ = 60 :: (47 :: (n ++ (62 :: rest))) := by rw [h]; simp
  have h1 := drop_one h0
  have h2 := drop_one h1
  have hnm := name_read (s := { s with at_ := s.at_ + 1 + 1 }) hn h2 (fun b r e => by cases e; exact i62)
  have h3 := drop_more h2
  unfold endP
  rw [expect_read h0]
  simp only
  rw [expect_read (s := { s with at_ := s.at_ + 1 }) h1]
  simp only [hnm, if_true]
  rw [blanks_none (s := { s with at_ := s.at_ + 1 + 1 + n.length }) h3 b62, expect_read (s := { s with at_ := s.at_ + 1 + 1 + n.length }) h3]
  simp only [Sum.inl.injEq, Prod.mk.injEq, true_and]
  congr 1
  omega

theorem el_read {l : Bs} {d : Nat} (ih : SibRt l d) {t : T (d + 1)} {s : St} {rest : Bs} (h : l.drop s.at_ = prT (d + 1) t ++ rest) (hat : s.at_ ≤ l.length) (hc : canT (d + 1) t) (hok : okD (d + 1) (d + 1) t) (hk : t.kind ≠ 2) (hop : s.op + (d + 1) = 64) (hn : s.nodes + cnt (d + 1) t ≤ 4096) :
    elemP l (sibP l d) s = .inl (t, { s with at_ := s.at_ + (prT (d + 1) t).length, nodes := s.nodes + cnt (d + 1) t }) := by
  obtain ⟨-, hown, hkok⟩ := hok
  obtain ⟨hk1, hnm, hal, hgo, hats, hkT⟩ := own_el hown hk
  rw [hkT] at hkok
  rcases hc with ⟨e, -⟩ | ⟨-, hte, hkc, hno⟩
  · exact absurd e hk
  obtain ⟨hds, hso⟩ := attrs_sorted hgo
  have hcnt : cnt (d + 1) t = 1 + (t.kids.map (cnt d)).sum := by rw [cnt, hkT]
  rw [hcnt] at hn ⊢
  have hpt : prT (d + 1) t = 60 :: (t.name.data.toList ++ (t.attrs.flatMap prA ++ (if hollowP d t.kids then [47, 62] else [62] ++ prF d t.kids ++ ([60, 47] ++ t.name.data.toList ++ [62])))) := by
    show (if t.kind = 2 then _ else _) = _
    rw [if_neg hk, prH]
    simp [prF, List.append_assoc]
  have hb : beginP s s.at_ = .inl ((), { s with nodes := s.nodes + 1 }) := by
    unfold beginP
    rw [if_neg (by omega)]
  rw [hpt] at h ⊢
  have h1 : l.drop (s.at_ + 1) = t.name.data.toList ++ ((t.attrs.flatMap prA ++ (if hollowP d t.kids then [47, 62] else [62] ++ prF d t.kids ++ ([60, 47] ++ t.name.data.toList ++ [62]))) ++ rest) := by
    have := drop_one h
    exact this.trans (List.append_assoc _ _ _)
  have hb32 : inB (32 : UInt8).toNat = false := by decide
  have hb47 : inB (47 : UInt8).toNat = false := by decide
  have hb62 : inB (62 : UInt8).toNat = false := by decide
  have hnr := name_read (s := { s with at_ := s.at_ + 1, nodes := s.nodes + 1 }) hnm h1 (fun b r e => by
    cases ha : t.attrs with
    | nil =>
      rw [ha] at e
      by_cases hh : hollowP d t.kids = true
      · rw [if_pos hh] at e; simp at e; rw [← e.1]; exact hb47
      · rw [if_neg hh] at e; simp at e; rw [← e.1]; exact hb62
    | cons p q =>
      rw [ha] at e
      simp [prA] at e
      rw [← e.1]; exact hb32)
  have h2 := drop_more h1
  have hfl : ∀ b r, l.drop (s.at_ + 1 + t.name.data.toList.length) = t.attrs.flatMap prA ++ b :: r → (b = 47 ∨ b = 62) → attrsP l { s with at_ := s.at_ + 1 + t.name.data.toList.length, nodes := s.nodes + 1 } = .inl (t.attrs, { s with at_ := s.at_ + 1 + t.name.data.toList.length + (t.attrs.flatMap prA).length, nodes := s.nodes + 1 }) := fun b r hd hbb => by
    have hlen := drop_len hd
    have hal2 : t.attrs.length ≤ (t.attrs.flatMap prA).length := by
      have : ∀ L : List Att, L.length ≤ (L.flatMap prA).length := by
        intro L
        induction L with
        | nil => simp
        | cons p q ih =>
          rw [List.flatMap_cons, List.length_append, List.length_cons]
          have : 1 ≤ (prA p).length := by simp [prA]
          omega
      exact this _
    have := attrs_read t.attrs (l.length - (s.at_ + 1 + t.name.data.toList.length) + 1) { s with at_ := s.at_ + 1 + t.name.data.toList.length, nodes := s.nodes + 1 } [] b r hd hbb hats (by simpa using hal) (by simpa using hds) (by rw [hlen, List.length_append, List.length_cons]; omega)
    unfold attrsP
    rw [this, List.nil_append, hso]
  unfold elemP
  rw [hb]
  simp only
  rw [hnr]
  simp only
  by_cases hh : hollowP d t.kids = true
  · have hk0 : t.kids = [] := (hollow_nil (fun k hk => hkc k hk)).1 hh
    rw [if_pos hh] at h2 ⊢
    have h3 : l.drop (s.at_ + 1 + t.name.data.toList.length) = t.attrs.flatMap prA ++ 47 :: (62 :: rest) := by rw [h2]; simp
    rw [hfl 47 _ h3 (.inl rfl)]
    have h4 := drop_more h3
    have h5 := drop_one h4
    simp only [get_drop h4, if_true]
    rw [expect_read (s := { s with at_ := s.at_ + 1 + t.name.data.toList.length + (t.attrs.flatMap prA).length + 1, nodes := s.nodes + 1 }) h5]
    simp only
    rw [hk0] at hte
    simp only [Sum.inl.injEq, Prod.mk.injEq]
    refine ⟨hte.symm, ?_⟩
    rw [hk0]
    simp only [List.length_cons, List.length_append, List.length_nil, List.map_nil, List.sum_nil]
    congr 1
    omega
  · rw [if_neg hh] at h2 ⊢
    have h3 : l.drop (s.at_ + 1 + t.name.data.toList.length) = t.attrs.flatMap prA ++ 62 :: (prF d t.kids ++ ([60, 47] ++ t.name.data.toList ++ [62] ++ rest)) := by rw [h2]; simp [List.append_assoc]
    rw [hfl 62 _ h3 (.inr rfl)]
    have h4 := drop_more h3
    have h5 := drop_one h4
    have hne : ¬ (62 : UInt8) = 47 := by decide
    simp only [get_drop h4, hne, if_false]
    rw [expect_read (s := { s with at_ := s.at_ + 1 + t.name.data.toList.length + (t.attrs.flatMap prA).length, nodes := s.nodes + 1 }) h4]
    simp only
    have hlt4 := drop_lt h4
    have hcan : Canon d t.kids := ⟨fun k hk => ⟨hkc k hk, by have := hkok k hk; simpa using this⟩, hno⟩
    have hsb := ih t.kids { s with at_ := s.at_ + 1 + t.name.data.toList.length + (t.attrs.flatMap prA).length + 1, nodes := s.nodes + 1, op := s.op + 1 } ([60, 47] ++ t.name.data.toList ++ [62] ++ rest) h5 (.inr ⟨t.name.data.toList ++ [62] ++ rest, by simp⟩) (by simp only; omega) hcan (by simp only; omega) (by simp only; omega)
    rw [hsb]
    simp only
    have h6 := drop_more h5
    rw [end_read (s := { s with at_ := s.at_ + 1 + t.name.data.toList.length + (t.attrs.flatMap prA).length + 1 + (prF d t.kids).length, nodes := s.nodes + 1 + (t.kids.map (cnt d)).sum, op := s.op + 1 - 1 }) hnm h6]
    simp only [Sum.inl.injEq, Prod.mk.injEq]
    refine ⟨hte.symm, ?_⟩
    have e1 : s.op + 1 - 1 = s.op := by omega
    rw [e1]
    simp only [List.length_cons, List.length_append, List.length_nil]
    congr 1 <;> omega

theorem prF_cons {n : Nat} (t : T n) (L : List (T n)) : prF n (t :: L) = prT n t ++ prF n L := by simp [prF]

theorem sib_read {l : Bs} {d : Nat} (ih : SibRt l d) : ∀ (L : List (T (d + 1))) (k : Nat) (s : St) (acc : List (T (d + 1))) (rest : Bs), l.drop s.at_ = prF (d + 1) L ++ rest → Fin rest → s.at_ ≤ l.length → Canon (d + 1) L → s.op + (d + 1) = 64 → s.nodes + (L.map (cnt (d + 1))).sum ≤ 4096 → L.length + 1 ≤ k →
    sibF l (elemP l (sibP l d)) k s acc = .inl (acc ++ L, { s with at_ := s.at_ + (prF (d + 1) L).length, nodes := s.nodes + (L.map (cnt (d + 1))).sum })
  | [], k, s, acc, rest, h, hf, hat, hc, hop, hn, hk => by
    obtain ⟨k', rfl⟩ : ∃ k', k = k' + 1 := ⟨k - 1, by omega⟩
    have h' : l.drop s.at_ = rest := by simpa [prF] using h
    rw [sibF, wordsP_none h' hf.stop]
    simp only
    rw [if_pos (hf.sees h' hat)]
    simp [prF]
  | t :: L, k, s, acc, rest, h, hf, hat, hc, hop, hn, hk => by
    obtain ⟨k', rfl⟩ : ∃ k', k = k' + 1 := ⟨k - 1, by omega⟩
    obtain ⟨hct, hokt⟩ := hc.1 t (by simp)
    have hcL : Canon (d + 1) L := ⟨fun x hx => hc.1 x (by simp [hx]), hc.2.tail⟩
    rw [prF_cons, List.append_assoc] at h
    rw [List.map_cons, List.sum_cons] at hn ⊢
    rw [List.length_cons] at hk
    by_cases hk2 : t.kind = 2
    · -- a text
      obtain ⟨hte, htn⟩ : t = txtT t.text.data.toList ∧ t.text.data.toList ≠ [] := by
        rcases hct with ⟨-, h2, h3⟩ | ⟨h1, -⟩
        · exact ⟨h2, h3⟩
        · omega
      have hpt : prT (d + 1) t = (eans false t.text.data.toList).1 := by
        show (if t.kind = 2 then _ else _) = _
        rw [if_pos hk2]
      have htx : (tans t.text.data.toList).2 = 0 := by
        have := hokt.2.1
        unfold ownE at this
        rw [if_neg (by omega), if_pos hk2] at this
        exact this
      have hct1 : cnt (d + 1) t = 1 := by
        have hkT : kidsT t = [] := if_neg (by omega)
        rw [cnt, hkT]; rfl
      rw [hct1] at hn ⊢
      rw [hpt] at h
      cases L with
      | nil =>
        have h' : l.drop s.at_ = (eans false t.text.data.toList).1 ++ rest := by simpa [prF] using h
        have hw := wordsP_read (s := s) htx h' hf.stop (fun _ => ⟨by simp at hn; omega, by omega⟩)
        have h2 := drop_more h'
        have hl2 := drop_len h'
        rw [sibF, hw]
        simp only [htn, if_false]
        rw [if_pos (hf.sees h2 (by simp at hl2; omega))]
        rw [← hte, prF_cons, hpt]
        simp [prF]
      | cons e L' =>
        obtain ⟨hce, hoke⟩ := hc.1 e (by simp)
        have hke : e.kind ≠ 2 := fun x => hc.2.1 ⟨hk2, x⟩
        rw [prF_cons, List.append_assoc] at h
        have hke' : kindT (d + 1) e ≠ 2 := hke
        have hst : Stop (prT (d + 1) e ++ (prF (d + 1) L' ++ rest)) := stop_tree hke' hoke _
        have hw := wordsP_read (s := s) htx h hst (fun _ => ⟨by omega, by omega⟩)
        have h2 := drop_more h
        have hl2 := drop_len h2
        obtain ⟨b, u, hbu, hb⟩ := prT_head (r := d + 1) hke' hoke
        have hnoend : ¬ (s.at_ + (eans false t.text.data.toList).1.length = l.length ∨ seesP l [60, 47] (s.at_ + (eans false t.text.data.toList).1.length) = true) := by
          rintro (e1 | e1)
          · rw [hbu] at hl2; simp at hl2; omega
          · have hb47 : ¬ (47 : UInt8) = b := fun e => (begin_ne hb).2.2.1 e.symm
            simp [seesP, h2, hbu, List.isPrefixOf, hb47] at e1
        rw [List.map_cons, List.sum_cons] at hn ⊢
        have hatE : s.at_ + (eans false t.text.data.toList).1.length ≤ l.length := by
          have := drop_len h
          rw [List.length_append] at this
          have hle : 1 ≤ l.length - s.at_ := by
            rw [this]
            rw [hbu]; simp; omega
          omega
        have her := el_read ih (s := { s with at_ := s.at_ + (eans false t.text.data.toList).1.length, nodes := s.nodes + 1 }) h2 hatE hce hoke hke hop (by simp only; omega)
        have h3 := drop_more h2
        have hcL' : Canon (d + 1) L' := ⟨fun x hx => hc.1 x (by simp [hx]), hcL.2.tail⟩
        have hl3 := drop_len h2
        have hatL : s.at_ + (eans false t.text.data.toList).1.length + (prT (d + 1) e).length ≤ l.length := by
          rw [List.length_append] at hl3; omega
        have hrec := sib_read ih L' k' { s with at_ := s.at_ + (eans false t.text.data.toList).1.length + (prT (d + 1) e).length, nodes := s.nodes + 1 + cnt (d + 1) e } (acc ++ [t] ++ [e]) rest h3 hf hatL hcL' hop (by simp only; omega) (by simp at hk; omega)
        rw [sibF, hw]
        simp only [htn, if_false, hnoend, her]
        rw [← hte, hrec]
        rw [prF_cons, prF_cons, hpt]
        simp only [List.append_assoc, List.cons_append, List.nil_append, List.length_append, Nat.add_assoc]
    · -- an element
      have hk2' : kindT (d + 1) t ≠ 2 := hk2
      have hst : Stop (prT (d + 1) t ++ (prF (d + 1) L ++ rest)) := stop_tree hk2' hokt _
      have hw := wordsP_none h hst
      obtain ⟨b, u, hbu, hb⟩ := prT_head (r := d + 1) hk2' hokt
      have hl2 := drop_len h
      have hnoend : ¬ (s.at_ = l.length ∨ seesP l [60, 47] s.at_ = true) := by
        rintro (e1 | e1)
        · rw [hbu] at hl2; simp at hl2; omega
        · have hb47 : ¬ (47 : UInt8) = b := fun e => (begin_ne hb).2.2.1 e.symm
          simp [seesP, h, hbu, List.isPrefixOf, hb47] at e1
      have her := el_read ih (s := s) h hat hct hokt hk2 hop (by omega)
      have h3 := drop_more h
      have hatL : s.at_ + (prT (d + 1) t).length ≤ l.length := by
        rw [List.length_append] at hl2
        have : 1 ≤ l.length - s.at_ := by rw [hl2, hbu]; simp; omega
        omega
      have hrec := sib_read ih L k' { s with at_ := s.at_ + (prT (d + 1) t).length, nodes := s.nodes + cnt (d + 1) t } (acc ++ [t]) rest h3 hf hatL hcL hop (by simp only; omega) (by omega)
      rw [sibF, hw]
      simp only [hnoend, if_false, if_true, her]
      rw [hrec, prF_cons]
      simp only [List.append_assoc, List.cons_append, List.nil_append, List.length_append, Nat.add_assoc]

theorem prF_len {n : Nat} : ∀ (L : List (T n)), Canon n L → L.length ≤ (prF n L).length
  | [], _ => by simp
  | t :: L, h => by
    have ih := prF_len L ⟨fun x hx => h.1 x (by simp [hx]), h.2.tail⟩
    rw [prF_cons, List.length_append, List.length_cons]
    obtain ⟨hc, ho⟩ := h.1 t (by simp)
    have : 1 ≤ (prT n t).length := by
      by_cases hk : kindT n t = 2
      · cases n with
        | zero => exact (t : Empty).elim
        | succ m =>
          have hk2 : t.kind = 2 := hk
          have hpt : prT (m + 1) t = (eans false t.text.data.toList).1 := by
            show (if t.kind = 2 then _ else _) = _
            rw [if_pos hk2]
          have htx : (tans t.text.data.toList).2 = 0 := by
            have := ho.2.1
            unfold ownE at this
            rw [if_neg (by omega), if_pos hk2] at this
            exact this
          rcases hc with ⟨-, -, h3⟩ | ⟨h1, -⟩
          · rw [hpt, (eans_piece htx).1]
            cases hs : (scan t.text.data.toList).1 with
            | nil =>
              have := (eans_piece (q := false) htx).2.1
              rw [hs] at this
              exact absurd this.symm h3
            | cons r rs =>
              rw [List.flatMap_cons, List.length_append]
              have := piece_pos false r
              omega
          · omega
      · obtain ⟨b, u, e, -⟩ := prT_head hk ho
        rw [e]; simp
    omega

theorem sib_rt (l : Bs) : ∀ d, SibRt l d
  | 0 => fun L s rest h hf hat hc hop hn => by
    have hL : L = [] := by
      cases L with
      | nil => rfl
      | cons t r => exact (t : Empty).elim
    subst hL
    have h' : l.drop s.at_ = rest := by simpa [prF] using h
    show (match wordsP l s with | .inr (p, e) => _ | .inl (t, s1) => _) = _
    rw [wordsP_none h' hf.stop]
    simp only
    rw [if_pos (hf.sees h' hat)]
    simp [prF]
  | d + 1 => fun L s rest h hf hat hc hop hn => by
    have hl := drop_len h
    have := sib_read (sib_rt l d) L (l.length - s.at_ + 1) s [] rest h hf hat hc hop hn (by rw [hl, List.length_append]; have := prF_len L hc; omega)
    show sibF l (elemP l (sibP l d)) (l.length - s.at_ + 1) s [] = _
    rw [this, List.nil_append]

/-- THERE AND BACK: a forest as Parse makes it, printed, is read as it was. -/
theorem parse_print {L : List (T 64)} (hc : Canon 64 L) (hn : (L.map (cnt 64)).sum ≤ 4096) (hl : (prF 64 L).length ≤ 262144) : parseP (prF 64 L) = .inl L := by
  have h := sib_rt (prF 64 L) 64 L ⟨0, 0, 0⟩ [] (by simp) (.inl rfl) (by simp) hc rfl (by simpa using hn)
  unfold parseP
  rw [if_neg (by omega)]
  unfold forestP
  rw [h]
  simp

end Go.Proofs.YtmifejkddgcbmaaGreat

/- What Parse makes, in plain: texts, values, names that can be; a fault's place lies within the text. -/
namespace Go.Proofs.YtmifejkddgcbmaaGreat
open Go.RowKit
set_option linter.unusedVariables false
set_option linter.unusedSimpArgs false

/-- Whole characters that can be. -/
def Vx (x : Bs) : Prop := ∃ rs, x = bytes rs ∧ ∀ r ∈ rs, Ch r
theorem Vx.nil : Vx [] := ⟨[], rfl, fun r h => by simp at h⟩
theorem Vx.enc {r : Nat} (h : Ch r) : Vx (enc r) := ⟨[r], by simp [bytes], fun x hx => by simp at hx; subst hx; exact h⟩
theorem Vx.append {x y : Bs} (hx : Vx x) (hy : Vx y) : Vx (x ++ y) := by
  obtain ⟨a, rfl, ha⟩ := hx
  obtain ⟨b, rfl, hb⟩ := hy
  refine ⟨a ++ b, by rw [bytes_append], fun r hr => ?_⟩
  rcases List.mem_append.1 hr with h | h
  · exact ha r h
  · exact hb r h
theorem Vx.tans {x : Bs} (hx : Vx x) (hl : x.length ≤ 16384) : (tans x).2 = 0 := by
  obtain ⟨rs, rfl, h⟩ := hx
  have hs := scan_of (rest := []) h first_nil
  rw [List.append_nil] at hs
  unfold Go.Proofs.YtmifejkddgcbmaaGreat.tans
  rw [if_neg (by omega)]
  unfold bans
  rw [hs, if_pos rfl]

theorem unF_vx : ∀ (k : Nat) (l acc : Bs) (pos : Nat), (unF k l acc pos).2.2 = 0 → Vx acc → Vx (unF k l acc pos).1 ∧ (acc ≠ [] ∨ (l ≠ [] ∧ 0 < k) → (unF k l acc pos).1 ≠ [])
  | 0, l, acc, pos, _, ha => ⟨ha, fun h => by
    rcases h with h | h
    · exact h
    · omega⟩
  | k + 1, l, acc, pos, h, ha => by
    rw [unF] at h ⊢
    by_cases hl : l = []
    · rw [if_pos hl] at h ⊢
      exact ⟨ha, fun h => by
        rcases h with h | h
        · exact h
        · exact absurd hl h.1⟩
    · rw [if_neg hl] at h ⊢
      by_cases hn : (nextP l).2.2 ≠ 0
      · rw [if_pos hn] at h
        exact absurd h hn
      · rw [if_neg hn] at h ⊢
        split at h
        · simp at h
        · rename_i h3
          rw [if_neg h3]
          obtain ⟨R, n, hR, hc, -⟩ := nextP_ok (Decidable.not_not.1 hn)
          have e1 : (nextP l).1.toNat = R := by rw [hR]; simp
          rw [e1] at h ⊢
          have hne : acc ++ enc R ≠ [] := fun e => enc_ne (List.append_eq_nil_iff.1 e).2
          obtain ⟨i1, i2⟩ := unF_vx k _ (acc ++ enc R) _ h (ha.append (Vx.enc hc))
          exact ⟨i1, fun _ => i2 (.inl hne)⟩

theorem letter_vx {l : Bs} {s s1 : St} {x : Bs} (h : letterP l s = .inl (x, s1)) : Vx x ∧ x ≠ [] := by
  unfold letterP at h
  split at h
  · simp at h
  · rename_i b r hd
    split at h
    · split at h
      · rename_i h0
        cases h
        have hne : refOf (b :: r) ≠ [] := fun e => by
          have := refOf_pos (r := b :: r) (by simp)
          rw [e] at this; simp at this
        have := unF_vx _ _ _ _ h0 Vx.nil
        exact ⟨this.1, this.2 (.inr ⟨hne, List.length_pos_iff.2 hne⟩)⟩
      · simp at h
    · split at h
      · rename_i q n hf
        cases h
        obtain ⟨hc, hn, t, ht⟩ := first_some hf
        rw [hn, ht, List.take_left]
        exact ⟨Vx.enc hc, enc_ne⟩
      · simp at h
theorem letter_bad {l : Bs} {s : St} {p : Nat} {e : Int} (h : letterP l s = .inr (p, e)) : p = s.at_ := by
  unfold letterP at h
  split at h
  · cases h; rfl
  · split at h
    · split at h
      · simp at h
      · cases h; rfl
    · split at h
      · simp at h
      · cases h; rfl
theorem put_ok {s s1 : St} {out x o : Bs} {a : Nat} (h : putP s out x a = .inl (o, s1)) : o = out ++ x ∧ o.length ≤ 16384 ∧ s1.at_ = s.at_ ∧ s1.op = s.op ∧ s1.nodes = s.nodes + (if out = [] then 1 else 0) ∧ (out = [] → s.nodes ≠ 4096 ∧ s.op ≠ 64) := by
  unfold putP at h
  by_cases ho : out = []
  · rw [if_pos ho] at h
    unfold beginP at h
    split at h
    · rename_i x1 x2 hb
      split at hb
      · simp at hb
      · rename_i hc
        cases hb
        unfold growP at h
        split at h
        · simp at h
        · rename_i hl
          cases h
          refine ⟨rfl, by rw [List.length_append]; omega, rfl, rfl, by simp [ho], fun _ => ⟨fun e => hc (.inl e), fun e => hc (.inr e)⟩⟩
    · simp at h
  · rw [if_neg ho] at h
    unfold growP at h
    split at h
    · simp at h
    · rename_i hl
      cases h
      exact ⟨rfl, by rw [List.length_append]; omega, rfl, rfl, by simp [ho], fun e => absurd e ho⟩
theorem put_bad {s : St} {out x : Bs} {a p : Nat} {e : Int} (h : putP s out x a = .inr (p, e)) : p = a := by
  unfold putP at h
  by_cases ho : out = []
  · rw [if_pos ho] at h
    unfold beginP at h
    split at h
    · unfold growP at h
      split at h
      · cases h; rfl
      · simp at h
    · rename_i hb
      split at hb
      · cases hb; cases h; rfl
      · simp at hb
  · rw [if_neg ho] at h
    unfold growP at h
    split at h
    · cases h; rfl
    · simp at h

/-- What a text that is read has made: from s and out to s1 and t. -/
structure WQ (s : St) (out t : Bs) (s1 : St) : Prop where
  len : t.length ≤ 16384
  op : s1.op = s.op
  nodes : s1.nodes = s.nodes + (if out = [] ∧ t ≠ [] then 1 else 0)
  le : s1.nodes ≤ 4096
  ne : out ≠ [] → t ≠ []
  top : out = [] → t ≠ [] → s.op ≠ 64
theorem WQ.refl {s : St} {out : Bs} (hl : out.length ≤ 16384) (hn : s.nodes ≤ 4096) : WQ s out out s :=
  ⟨hl, rfl, by by_cases h : out = [] <;> simp [h], hn, fun h => h, fun h h2 => absurd h h2⟩
/-- Something more was put, then the rest read. -/
theorem WQ.after {s s1 s2 s3 : St} {out x o t : Bs} {a : Nat} (hx : x ≠ []) (hp : putP s1 out x a = .inl (o, s2)) (h1 : s1.nodes = s.nodes) (h2 : s1.op = s.op) (h : WQ s2 o t s3) : WQ s out t s3 := by
  obtain ⟨p1, p2, p3, p4, p5, p6⟩ := put_ok hp
  have ho : o ≠ [] := fun e => hx (List.append_eq_nil_iff.1 (p1.symm.trans e)).2
  have ht := h.ne ho
  have hn := h.nodes
  rw [if_neg (fun e => ho e.1)] at hn
  refine ⟨h.len, h.op.trans (p4.trans h2), ?_, h.le, fun _ => ht, fun e _ => by rw [← h2]; exact (p6 e).2⟩
  rw [hn, p5, h1]
  by_cases e : out = []
  · simp [e, ht]
  · simp [e]
theorem put_nodes {s1 s2 : St} {out x o : Bs} {a : Nat} (hp : putP s1 out x a = .inl (o, s2)) (hn : s1.nodes ≤ 4096) : s2.nodes ≤ 4096 := by
  obtain ⟨-, -, -, -, p5, p6⟩ := put_ok hp
  by_cases e : out = []
  · have := (p6 e).1
    rw [p5, if_pos e]; omega
  · rw [p5, if_neg e]; omega

theorem puts_ok : ∀ (x : Bs) (s s1 : St) (out o : Bs) (a : Nat), putsP s out x a = .inl (o, s1) → out.length ≤ 16384 → s.nodes ≤ 4096 → o = out ++ x ∧ s1.at_ = s.at_ ∧ WQ s out o s1
  | [], s, s1, out, o, a, h, hl, hn => by
    rw [putsP] at h
    cases h
    exact ⟨by simp, rfl, WQ.refl hl hn⟩
  | b :: r, s, s1, out, o, a, h, hl, hn => by
    rw [putsP] at h
    cases hp : putP s out [b] a with
    | inr q => obtain ⟨p, e⟩ := q; rw [hp] at h; simp at h
    | inl q =>
      obtain ⟨o2, s2⟩ := q
      rw [hp] at h
      simp only at h
      obtain ⟨p1, p2, p3, p4, p5, p6⟩ := put_ok hp
      obtain ⟨i1, i2, i3⟩ := puts_ok r s2 s1 o2 o (a + 1) h p2 (put_nodes hp hn)
      exact ⟨by rw [i1, p1]; simp, i2.trans p3, WQ.after (by simp) hp rfl rfl i3⟩
theorem puts_bad : ∀ (x : Bs) (s : St) (out : Bs) (a p : Nat) (e : Int), putsP s out x a = .inr (p, e) → p ≤ a + x.length
  | [], s, out, a, p, e, h => by rw [putsP] at h; simp at h
  | b :: r, s, out, a, p, e, h => by
    rw [putsP] at h
    cases hp : putP s out [b] a with
    | inr q =>
      obtain ⟨p2, e2⟩ := q
      rw [hp] at h
      cases h
      rw [put_bad hp]; omega
    | inl q =>
      obtain ⟨o2, s2⟩ := q
      rw [hp] at h
      have := puts_bad r s2 o2 (a + 1) p e h
      rw [List.length_cons]; omega

theorem rawF_vx : ∀ (k : Nat) (s s1 : St) (out x o : Bs) (a : Nat), rawF k s out x a = .inl (o, s1) → x.length ≤ k → Vx out → out.length ≤ 16384 → s.nodes ≤ 4096 → Vx o ∧ WQ s out o s1
  | 0, s, s1, out, x, o, a, h, hk, hv, hl, hn => by
    rw [rawF] at h
    cases h
    exact ⟨hv, WQ.refl hl hn⟩
  | k + 1, s, s1, out, x, o, a, h, hk, hv, hl, hn => by
    rw [rawF] at h
    by_cases hx : x = []
    · rw [if_pos hx] at h
      cases h
      exact ⟨hv, WQ.refl hl hn⟩
    · rw [if_neg hx] at h
      cases hf : first x with
      | none => rw [hf] at h; simp at h
      | some q =>
        obtain ⟨r, n⟩ := q
        rw [hf] at h
        simp only at h
        obtain ⟨hc, hn2, t, ht⟩ := first_some hf
        have htake : x.take n = enc r := by rw [hn2, ht, List.take_left]
        rw [htake] at h
        cases hp : putsP s out (enc r) a with
        | inr q => obtain ⟨p, e⟩ := q; rw [hp] at h; simp at h
        | inl q =>
          obtain ⟨o2, s2⟩ := q
          rw [hp] at h
          simp only at h
          obtain ⟨i1, i2, i3⟩ := puts_ok _ _ _ _ _ _ hp hl hn
          have ho2 : o2 ≠ [] := fun e => enc_ne (List.append_eq_nil_iff.1 (i1.symm.trans e)).2
          obtain ⟨j1, j2⟩ := rawF_vx k s2 s1 o2 (x.drop n) o (a + n) h (by
            have := enc_pos r
            rw [List.length_drop]
            rw [← hn2] at this
            have : 0 < x.length := List.length_pos_iff.2 hx
            omega) (by rw [i1]; exact hv.append (Vx.enc hc)) i3.len i3.le
          refine ⟨j1, j2.len, j2.op.trans i3.op, ?_, j2.le, fun _ => j2.ne ho2, fun e _ => i3.top e ho2⟩
          have hne := j2.ne ho2
          have h1 := j2.nodes
          have h2 := i3.nodes
          rw [if_neg (fun e => ho2 e.1)] at h1
          rw [h1, h2]
          by_cases e : out = [] <;> simp [e, ho2, hne]
theorem rawF_bad' : ∀ (k : Nat) (s : St) (out x : Bs) (a p : Nat) (e : Int), rawF k s out x a = .inr (p, e) → p ≤ a + x.length
  | 0, s, out, x, a, p, e, h => by rw [rawF] at h; simp at h
  | k + 1, s, out, x, a, p, e, h => by
    rw [rawF] at h
    by_cases hx : x = []
    · rw [if_pos hx] at h; simp at h
    · rw [if_neg hx] at h
      cases hf : first x with
      | none => rw [hf] at h; cases h; omega
      | some q =>
        obtain ⟨r, n⟩ := q
        rw [hf] at h
        simp only at h
        obtain ⟨hc, hn2, t, ht⟩ := first_some hf
        have hnl : n ≤ x.length := by rw [ht, List.length_append, ← hn2]; omega
        cases hp : putsP s out (x.take n) a with
        | inr q =>
          obtain ⟨p2, e2⟩ := q
          rw [hp] at h
          cases h
          have := puts_bad _ _ _ _ _ _ hp
          rw [List.length_take] at this
          omega
        | inl q =>
          obtain ⟨o2, s2⟩ := q
          rw [hp] at h
          have := rawF_bad' k s2 o2 (x.drop n) (a + n) p e h
          rw [List.length_drop] at this
          omega

theorem skip_bad {l : Bs} {n : Nat} {q : Bs} {s : St} {p : Nat} {e : Int} (h : skipP l n q s = .inr (p, e)) : p = s.at_ := by
  unfold skipP at h
  split at h
  · cases h; rfl
  · simp at h

theorem words_vx {l : Bs} : ∀ (k : Nat) (s s1 : St) (out t : Bs), wordsF l k s out = .inl (t, s1) → s.at_ ≤ l.length → Vx out → out.length ≤ 16384 → s.nodes ≤ 4096 → Vx t ∧ WQ s out t s1
  | 0, s, s1, out, t, h, hat, hv, hl, hn => by
    rw [wordsF] at h
    cases h
    exact ⟨hv, WQ.refl hl hn⟩
  | k + 1, s, s1, out, t, h, hat, hv, hl, hn => by
    rw [wordsF] at h
    cases hg : l[s.at_]? with
    | none => rw [hg] at h; cases h; exact ⟨hv, WQ.refl hl hn⟩
    | some b =>
      rw [hg] at h
      simp only at h
      split at h
      · cases hlt : letterP l s with
        | inr q => obtain ⟨p, e⟩ := q; rw [hlt] at h; simp at h
        | inl q =>
          obtain ⟨x, s2⟩ := q
          rw [hlt] at h
          simp only at h
          obtain ⟨x1, x2⟩ := letter_vx hlt
          obtain ⟨-, y1, y2, y3, -⟩ := letterP_ok hlt
          cases hp : putP s2 out x s.at_ with
          | inr q => obtain ⟨p, e⟩ := q; rw [hp] at h; simp at h
          | inl q =>
            obtain ⟨o3, s3⟩ := q
            rw [hp] at h
            simp only at h
            obtain ⟨p1, p2, p3, p4, p5, p6⟩ := put_ok hp
            obtain ⟨i1, i2⟩ := words_vx k s3 s1 o3 t h (by rw [p3]; exact y1) (by rw [p1]; exact hv.append x1) p2 (put_nodes hp (by rw [y2]; exact hn))
            exact ⟨i1, WQ.after x2 hp y2 y3 i2⟩
      · split at h
        · rename_i hs4
          cases hsk : skipP l 4 [45, 45, 62] s with
          | inr q => obtain ⟨p, e⟩ := q; rw [hsk] at h; simp at h
          | inl q =>
            obtain ⟨x, s2⟩ := q
            rw [hsk] at h
            simp only at h
            have h4 := seesP_le hs4 (by simp)
            obtain ⟨rfl, z2, -⟩ := skipP_ok hsk h4
            obtain ⟨i1, i2⟩ := words_vx k _ s1 out t h z2 hv hl hn
            exact ⟨i1, i2.len, i2.op, i2.nodes, i2.le, i2.ne, i2.top⟩
        · split at h
          · rename_i hs2
            cases hsk : skipP l 2 [63, 62] s with
            | inr q => obtain ⟨p, e⟩ := q; rw [hsk] at h; simp at h
            | inl q =>
              obtain ⟨x, s2⟩ := q
              rw [hsk] at h
              simp only at h
              have h4 := seesP_le hs2 (by simp)
              obtain ⟨rfl, z2, -⟩ := skipP_ok hsk h4
              obtain ⟨i1, i2⟩ := words_vx k _ s1 out t h z2 hv hl hn
              exact ⟨i1, i2.len, i2.op, i2.nodes, i2.le, i2.ne, i2.top⟩
          · split at h
            · rename_i hs9
              cases hr : rawP l s out with
              | inr q => obtain ⟨p, e⟩ := q; rw [hr] at h; simp at h
              | inl q =>
                obtain ⟨o2, s2⟩ := q
                rw [hr] at h
                simp only at h
                have h9 := seesP_le hs9 (by simp)
                have hok := rawP_ok hl (by simpa using h9) hr
                unfold rawP at hr
                cases hsk : skipP l 9 [93, 93, 62] s with
                | inr q => obtain ⟨p, e⟩ := q; rw [hsk] at hr; simp at hr
                | inl q =>
                  obtain ⟨x, s3⟩ := q
                  rw [hsk] at hr
                  simp only at hr
                  obtain ⟨rfl, z2, -⟩ := skipP_ok hsk (by simpa using h9)
                  obtain ⟨r1, r2⟩ := rawF_vx _ _ _ _ _ _ _ hr (Nat.le_refl _) hv hl hn
                  obtain ⟨i1, i2⟩ := words_vx k s2 s1 o2 t h hok.2.1 r1 r2.len r2.le
                  refine ⟨i1, i2.len, i2.op.trans r2.op, ?_, i2.le, fun e => i2.ne (r2.ne e), fun e e2 => ?_⟩
                  · rw [i2.nodes, r2.nodes]
                    by_cases e : out = []
                    · by_cases e2 : o2 = []
                      · simp [e, e2]
                      · have := i2.ne e2
                        simp [e, e2, this]
                    · have := r2.ne e
                      simp [e, this]
                  · by_cases e3 : o2 = []
                    · have := i2.top e3 e2
                      rw [r2.op] at this
                      exact this
                    · exact r2.top e e3
            · cases ht : tagP l s with
              | inr q => obtain ⟨p, e⟩ := q; rw [ht] at h; simp at h
              | inl q =>
                obtain ⟨u, s2⟩ := q
                rw [ht] at h
                cases h
                rw [tagP_ok ht]
                exact ⟨hv, WQ.refl hl hn⟩
theorem tag_bad {l : Bs} {s : St} {p : Nat} {e : Int} (h : tagP l s = .inr (p, e)) : p = s.at_ := by
  unfold tagP at h
  split at h
  · cases h; rfl
  · split at h
    · simp at h
    · split at h
      · split at h
        · simp at h
        · cases h; rfl
      · cases h; rfl
theorem words_bad {l : Bs} : ∀ (k : Nat) (s : St) (out : Bs) (p : Nat) (e : Int), wordsF l k s out = .inr (p, e) → s.at_ ≤ l.length → out.length ≤ 16384 → p ≤ l.length
  | 0, s, out, p, e, h, hat, hl => by rw [wordsF] at h; simp at h
  | k + 1, s, out, p, e, h, hat, hl => by
    rw [wordsF] at h
    cases hg : l[s.at_]? with
    | none => rw [hg] at h; simp at h
    | some b =>
      rw [hg] at h
      simp only at h
      split at h
      · cases hlt : letterP l s with
        | inr q => obtain ⟨p2, e2⟩ := q; rw [hlt] at h; cases h; rw [letter_bad hlt]; exact hat
        | inl q =>
          obtain ⟨x, s2⟩ := q
          rw [hlt] at h
          simp only at h
          obtain ⟨-, y1, y2, y3, -⟩ := letterP_ok hlt
          cases hp : putP s2 out x s.at_ with
          | inr q => obtain ⟨p2, e2⟩ := q; rw [hp] at h; cases h; rw [put_bad hp]; exact hat
          | inl q =>
            obtain ⟨o3, s3⟩ := q
            rw [hp] at h
            obtain ⟨p1, p2, p3, p4, p5, p6⟩ := put_ok hp
            exact words_bad k s3 o3 p e h (by rw [p3]; exact y1) p2
      · split at h
        · rename_i hs4
          cases hsk : skipP l 4 [45, 45, 62] s with
          | inr q => obtain ⟨p2, e2⟩ := q; rw [hsk] at h; cases h; rw [skip_bad hsk]; exact hat
          | inl q =>
            obtain ⟨x, s2⟩ := q
            rw [hsk] at h
            obtain ⟨rfl, z2, -⟩ := skipP_ok hsk (seesP_le hs4 (by simp))
            exact words_bad k _ out p e h z2 hl
        · split at h
          · rename_i hs2
            cases hsk : skipP l 2 [63, 62] s with
            | inr q => obtain ⟨p2, e2⟩ := q; rw [hsk] at h; cases h; rw [skip_bad hsk]; exact hat
            | inl q =>
              obtain ⟨x, s2⟩ := q
              rw [hsk] at h
              obtain ⟨rfl, z2, -⟩ := skipP_ok hsk (seesP_le hs2 (by simp))
              exact words_bad k _ out p e h z2 hl
          · split at h
            · rename_i hs9
              have h9 := seesP_le hs9 (by simp)
              cases hr : rawP l s out with
              | inr q =>
                obtain ⟨p2, e2⟩ := q
                rw [hr] at h
                cases h
                unfold rawP at hr
                cases hsk : skipP l 9 [93, 93, 62] s with
                | inr q => obtain ⟨p3, e3⟩ := q; rw [hsk] at hr; cases hr; rw [skip_bad hsk]; exact hat
                | inl q =>
                  obtain ⟨x, s3⟩ := q
                  rw [hsk] at hr
                  simp only at hr
                  obtain ⟨rfl, z2, -⟩ := skipP_ok hsk (by simpa using h9)
                  have := rawF_bad' _ _ _ _ _ _ _ hr
                  omega
              | inl q =>
                obtain ⟨o2, s2⟩ := q
                rw [hr] at h
                have hok := rawP_ok hl (by simpa using h9) hr
                exact words_bad k s2 o2 p e h hok.2.1 hok.2.2.2.2
            · cases ht : tagP l s with
              | inr q => obtain ⟨p2, e2⟩ := q; rw [ht] at h; cases h; rw [tag_bad ht]; exact hat
              | inl q => obtain ⟨u, s2⟩ := q; rw [ht] at h; simp at h

end Go.Proofs.YtmifejkddgcbmaaGreat
