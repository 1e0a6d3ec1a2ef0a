/- What is written loosely reads as it was, in plain: remarks, the other quotes, blanks. -/
import Derived.Test.YtmifejkddgcbmaaGreatB05
namespace Go.Proofs.YtmifejkddgcbmaaGreat
open Go.RowKit
set_option linter.unusedVariables false
set_option linter.unusedSimpArgs false

/-- A remark, of one sort or the other. -/
def rem (b : Bool) : Bs := if b then [60, 33, 45, 45, 32, 60, 32, 38, 32, 45, 45, 62] else [60, 63, 97, 32, 62, 32, 98, 63, 62]
def rems (bs : List Bool) : Bs := bs.flatMap rem
theorem rem_pos (b : Bool) : 1 ≤ (rem b).length := by cases b <;> decide
theorem rems_len : ∀ bs, bs.length ≤ (rems bs).length
  | [] => Nat.zero_le _
  | b :: r => by
    have := rems_len r
    have := rem_pos b
    simp only [rems, List.flatMap_cons, List.length_append, List.length_cons] at *
    omega

/-- A remark is passed over. -/
theorem words_rem {l : Bs} (b : Bool) {k : Nat} {s : St} {out rest : Bs} (h : l.drop s.at_ = rem b ++ rest) : wordsF l (k + 1) s out = wordsF l k { s with at_ := s.at_ + (rem b).length } out := by
  cases b with
  | true =>
    have hg : l[s.at_]? = some 60 := get_drop (r := [33, 45, 45, 32, 60, 32, 38, 32, 45, 45, 62] ++ rest) (by rw [h]; rfl)
    have s1 : seesP l [60, 33, 45, 45] s.at_ = true := by simp [seesP, h, rem, List.isPrefixOf]
    have hd : l.drop (s.at_ + 4) = [32, 60, 32, 38, 32, 45, 45, 62] ++ rest := by
      have := drop_more (l := l) (a := s.at_) (x := [60, 33, 45, 45]) (y := [32, 60, 32, 38, 32, 45, 45, 62] ++ rest) (by rw [h]; rfl)
      simpa using this
    have hsk : skipP l 4 [45, 45, 62] s = .inl ((l.drop (s.at_ + 4)).take 5, { s with at_ := s.at_ + 4 + 5 + 3 }) := by
      unfold skipP
      have hf : findP [45, 45, 62] (l.drop (s.at_ + 4)) = some 5 := by rw [hd]; simp [findP, List.isPrefixOf]
      rw [hf]
      rfl
    rw [wordsF, hg]
    simp only [ne_eq, not_true_eq_false, if_false, s1, if_true, hsk]
    rfl
  | false =>
    have hg : l[s.at_]? = some 60 := get_drop (r := [63, 97, 32, 62, 32, 98, 63, 62] ++ rest) (by rw [h]; rfl)
    have s1 : seesP l [60, 33, 45, 45] s.at_ = false := by simp [seesP, h, rem, List.isPrefixOf]
    have s2 : seesP l [60, 63] s.at_ = true := by simp [seesP, h, rem, List.isPrefixOf]
    have hd : l.drop (s.at_ + 2) = [97, 32, 62, 32, 98, 63, 62] ++ rest := by
      have := drop_more (l := l) (a := s.at_) (x := [60, 63]) (y := [97, 32, 62, 32, 98, 63, 62] ++ rest) (by rw [h]; rfl)
      simpa using this
    have hsk : skipP l 2 [63, 62] s = .inl ((l.drop (s.at_ + 2)).take 5, { s with at_ := s.at_ + 2 + 5 + 2 }) := by
      unfold skipP
      have hf : findP [63, 62] (l.drop (s.at_ + 2)) = some 5 := by rw [hd]; simp [findP, List.isPrefixOf]
      rw [hf]
      rfl
    rw [wordsF, hg]
    simp only [ne_eq, not_true_eq_false, if_false, s1, s2, if_true, hsk, Bool.false_eq_true]
    rfl
theorem words_rems {l : Bs} : ∀ (bs : List Bool) (k : Nat) (s : St) (out rest : Bs), l.drop s.at_ = rems bs ++ rest → wordsF l (k + bs.length) s out = wordsF l k { s with at_ := s.at_ + (rems bs).length } out
  | [], k, s, out, rest, h => by simp [rems]
  | b :: r, k, s, out, rest, h => by
    have h1 : l.drop s.at_ = rem b ++ (rems r ++ rest) := by rw [h]; simp [rems]
    rw [List.length_cons, ← Nat.add_assoc, words_rem b h1, words_rems r k _ out rest (drop_more h1)]
    simp [rems, Nat.add_assoc]

/-- A text, and remarks behind it. -/
theorem words_readL {l : Bs} (bs : List Bool) : ∀ (rs : List Nat) (k : Nat) (s : St) (out rest : Bs), l.drop s.at_ = rs.flatMap (piece false) ++ (rems bs ++ rest) → Stop rest → (∀ r ∈ rs, Ch r) → out.length + (bytes rs).length ≤ 16384 → (out = [] → rs ≠ [] → s.nodes ≠ 4096 ∧ s.op ≠ 64) → (rs.flatMap (piece false)).length + bs.length + 1 ≤ k →
    wordsF l k s out = .inl (out ++ bytes rs, { s with at_ := s.at_ + (rs.flatMap (piece false)).length + (rems bs).length, nodes := bump out rs s.nodes })
  | [], k, s, out, rest, h, hs, _, _, _, hk => by
    have h' : l.drop s.at_ = rems bs ++ rest := by simpa using h
    obtain ⟨k', rfl⟩ : ∃ k', k = (k' + 1) + bs.length := ⟨k - bs.length - 1, by simp at hk; omega⟩
    rw [words_rems bs (k' + 1) s out rest h', words_stop (s := { s with at_ := s.at_ + (rems bs).length }) (drop_more h') hs]
    simp [bytes, bump]
  | r :: rs, k, s, out, rest, h, hs, hc, hl, hn, hk => by
    obtain ⟨k', rfl⟩ : ∃ k', k = k' + 1 := ⟨k - 1, by omega⟩
    have hcr : Ch r := hc r (by simp)
    obtain ⟨b, u, hbu, hb, -⟩ := piece_head (q := false) hcr
    have hh : l.drop s.at_ = piece false r ++ (rs.flatMap (piece false) ++ (rems bs ++ rest)) := by rw [h, List.flatMap_cons, List.append_assoc]
    have hg : l[s.at_]? = some b := get_drop (r := u ++ (rs.flatMap (piece false) ++ (rems bs ++ rest))) (by rw [hh, hbu]; rfl)
    have hlt := letter_piece (s := s) hcr hh
    rw [bytes_cons, List.length_append] at hl
    have hpt := put_enc (s := { s with at_ := s.at_ + (piece false r).length }) (out := out) (r := r) (a := s.at_) (by omega) (fun ho => hn ho (by simp))
    have hp := piece_pos false r
    rw [List.flatMap_cons, List.length_append] at hk
    have hne : out ++ enc r ≠ [] := by
      intro e
      have := congrArg List.length e
      have h2 := enc_pos r
      simp at this
      rw [this.2] at h2
      simp at h2
    have ih := words_readL bs rs k' { s with at_ := s.at_ + (piece false r).length, nodes := if out = [] then s.nodes + 1 else s.nodes } (out ++ enc r) rest (drop_more hh) hs (fun x hx => hc x (by simp [hx])) (by rw [List.length_append]; omega) (fun e => absurd e hne) (by omega)
    rw [wordsF, hg]
    simp only [ne_eq, hb, not_false_eq_true, if_true, hlt, hpt]
    rw [ih]
    rw [bytes_cons, List.append_assoc, List.flatMap_cons, List.length_append]
    have e1 : bump (out ++ enc r) rs (if out = [] then s.nodes + 1 else s.nodes) = bump out (r :: rs) s.nodes := by
      unfold bump
      rw [if_neg (fun h => hne h.1)]
      by_cases ho : out = [] <;> simp [ho]
    rw [e1, Nat.add_assoc s.at_]

theorem wordsP_readL {l x rest : Bs} {s : St} (b0 bs : List Bool) (hx : (tans x).2 = 0) (h : l.drop s.at_ = rems b0 ++ ((eans false x).1 ++ (rems bs ++ rest))) (hs : Stop rest) (hn : x ≠ [] → s.nodes ≠ 4096 ∧ s.op ≠ 64) :
    wordsP l s = .inl (x, { s with at_ := s.at_ + (rems b0).length + (eans false x).1.length + (rems bs).length, nodes := if x = [] then s.nodes else s.nodes + 1 }) := by
  obtain ⟨e1, e2, e3, e4⟩ := eans_piece (q := false) hx
  rw [e1] at h ⊢
  have hz : (scan x).1 = [] ↔ x = [] := by
    constructor
    · intro e; rw [e] at e2; exact e2.symm
    · intro e
      cases hsc : (scan x).1 with
      | nil => rfl
      | cons r rs =>
        rw [hsc, bytes_cons] at e2
        have h1 := enc_pos r
        have h2 := congrArg List.length e2
        rw [e, List.length_append, List.length_nil] at h2
        omega
  have hlen := drop_len h
  have l0 := rems_len b0
  have l1 := rems_len bs
  simp only [List.length_append] at hlen
  have := words_readL bs (scan x).1 (l.length - s.at_ + 1 - b0.length) { s with at_ := s.at_ + (rems b0).length } [] rest (drop_more h) hs e3 (by rw [e2]; simpa using e4) (fun _ hne => hn (fun e => hne (hz.2 e))) (by omega)
  unfold wordsP
  rw [show l.length - s.at_ + 1 = (l.length - s.at_ + 1 - b0.length) + b0.length by omega, words_rems b0 _ s [] _ h, this, e2, List.nil_append]
  have hb : bump [] (scan x).1 s.nodes = if x = [] then s.nodes else s.nodes + 1 := by
    unfold bump
    by_cases hxe : x = []
    · rw [if_pos hxe, if_neg (fun h => h.2 (hz.2 hxe))]
    · rw [if_neg hxe, if_pos ⟨rfl, fun e => hxe (hz.1 e)⟩]
  simp only [hb]
theorem wordsP_noneL {l rest : Bs} {s : St} (bs : List Bool) (h : l.drop s.at_ = rems bs ++ rest) (hs : Stop rest) : wordsP l s = .inl ([], { s with at_ := s.at_ + (rems bs).length }) := by
  have := wordsP_readL (x := []) (rest := rest) (s := s) [] bs tans_nil (by rw [eans_nil]; simpa [rems] using h) hs (fun e => absurd rfl e)
  rw [this, eans_nil]
  simp [rems]

/-- A value between quotes of a sort that is not in it. -/
theorem value_readL {l : Bs} (q : UInt8) : ∀ (rs : List Nat) (k : Nat) (s : St) (out rest : Bs), l.drop s.at_ = rs.flatMap (piece true) ++ q :: rest → (∀ r ∈ rs, Ch r) → (∀ x ∈ rs.flatMap (piece true), x ≠ q) → out.length + (bytes rs).length ≤ 16384 → (rs.flatMap (piece true)).length + 1 ≤ k →
    valueF l q k s out = .inl (out ++ bytes rs, { s with at_ := s.at_ + (rs.flatMap (piece true)).length + 1 })
  | [], k, s, out, rest, h, _, _, _, hk => by
    obtain ⟨k', rfl⟩ : ∃ k', k = k' + 1 := ⟨k - 1, by omega⟩
    rw [valueF, get_drop (r := rest) (by simpa using h)]
    simp [bytes]
  | r :: rs, k, s, out, rest, h, hc, hq, hl, hk => by
    obtain ⟨k', rfl⟩ : ∃ k', k = k' + 1 := ⟨k - 1, by omega⟩
    have hcr : Ch r := hc r (by simp)
    obtain ⟨b, u, hbu, hb, -⟩ := piece_head (q := true) hcr
    have hbq : ¬ b = q := hq b (by rw [List.flatMap_cons, hbu]; simp)
    have hh : l.drop s.at_ = piece true r ++ (rs.flatMap (piece true) ++ q :: rest) := by rw [h, List.flatMap_cons, List.append_assoc]
    have hg : l[s.at_]? = some b := get_drop (r := u ++ (rs.flatMap (piece true) ++ q :: rest)) (by rw [hh, hbu]; rfl)
    have hlt := letter_piece (s := s) hcr hh
    rw [bytes_cons, List.length_append] at hl
    have hgr : ¬ 16384 < out.length + (enc r).length := by omega
    have hp := piece_pos true r
    rw [List.flatMap_cons, List.length_append] at hk
    have ih := value_readL q rs k' { s with at_ := s.at_ + (piece true r).length } (out ++ enc r) rest (drop_more hh) (fun x hx => hc x (by simp [hx])) (fun x hx => hq x (by rw [List.flatMap_cons]; exact List.mem_append_right _ hx)) (by rw [List.length_append]; omega) (by omega)
    rw [valueF, hg]
    simp only [hb, hbq, if_false, hlt, growP, hgr]
    rw [ih]
    rw [bytes_cons, List.append_assoc, List.flatMap_cons, List.length_append]
    simp only [Nat.add_assoc]

/-- An attribute, written loosely: which quote. -/
def qOk (q : UInt8) (p : Att) : Prop := (q = 34 ∨ q = 39) ∧ ∀ x ∈ (eans true p.2.data.toList).1, x ≠ q
def prL (q : UInt8) (p : Att) : Bs := [10, 32] ++ (p.1.data.toList ++ (61 :: q :: ((eans true p.2.data.toList).1 ++ [q])))

theorem attr_readL {l : Bs} {s : St} {p : Att} {acc : List Att} {rest : Bs} (q : UInt8) (hq : qOk q p) (hn : nameL p.1.data.toList = true) (hv : (tans p.2.data.toList).2 = 0) (h : l.drop s.at_ = p.1.data.toList ++ (61 :: q :: ((eans true p.2.data.toList).1 ++ q :: rest))) (hl : acc.length < 32) (hd : ∀ x ∈ acc, x.1.toList ≠ p.1.toList) :
    attrP l acc s = .inl (p, { s with at_ := s.at_ + p.1.data.toList.length + 2 + (eans true p.2.data.toList).1.length + 1 }) := by
  obtain ⟨e1, e2, e3, e4⟩ := eans_piece (q := true) hv
  obtain ⟨hq1, hq2⟩ := hq
  rw [e1] at h hq2 ⊢
  have i61 : inB (61 : UInt8).toNat = false := by decide
  have hnm := name_read (s := s) hn h (fun b r e => by cases e; exact i61)
  have h1 := drop_more h
  have h2 : l.drop (s.at_ + p.1.data.toList.length + 1) = q :: ((scan p.2.data.toList).1.flatMap (piece true) ++ q :: rest) := drop_one h1
  have h3 : l.drop (s.at_ + p.1.data.toList.length + 1 + 1) = (scan p.2.data.toList).1.flatMap (piece true) ++ q :: rest := drop_one h2
  have hx : expectP l 61 { s with at_ := s.at_ + p.1.data.toList.length } = .inl ((), { s with at_ := s.at_ + p.1.data.toList.length + 1 }) := expect_read (s := { s with at_ := s.at_ + p.1.data.toList.length }) h1
  have hlen := drop_len h2
  have hvf := value_readL q (scan p.2.data.toList).1 (l.length - (s.at_ + p.1.data.toList.length + 1)) { s with at_ := s.at_ + p.1.data.toList.length + 1 + 1 } [] rest h3 e3 hq2 (by rw [e2]; simpa using e4) (by rw [hlen]; simp)
  have hvp : valueP l { s with at_ := s.at_ + p.1.data.toList.length + 1 } = .inl (p.2.data.toList, { s with at_ := s.at_ + p.1.data.toList.length + 1 + 1 + ((scan p.2.data.toList).1.flatMap (piece true)).length + 1 }) := by
    unfold valueP
    rw [get_drop h2]
    simp only [hq1, if_true]
    rw [hvf, e2]
    rfl
  have ha : acc.any (fun x => x.1.toList == (ba p.1.data.toList).toList) = false := by
    rw [ba_data]
    rw [List.any_eq_false]
    intro x hx
    simpa using hd x hx
  unfold attrP
  rw [hnm]
  simp only [Nat.ne_of_lt hl, if_false, ha, Bool.false_eq_true, hx, hvp]
  rw [ba_data, ba_data]

theorem blanks_two {l : Bs} {s : St} {a c b : UInt8} {r : Bs} (h : l.drop s.at_ = a :: c :: b :: r) (ha : blankB a.toNat = true) (hc : blankB c.toNat = true) (hb : blankB b.toNat = false) : blanksP l s = { s with at_ := s.at_ + 2 } := by
  unfold blanksP runN
  rw [h]
  simp [hb, ha, hc]

/-- Attributes, written loosely. -/
def LAs : List Att → Bs → Prop
  | [], x => x = []
  | p :: r, x => ∃ q z, qOk q p ∧ LAs r z ∧ x = prL q p ++ z
theorem LAs.len : ∀ {al : List Att} {x : Bs}, LAs al x → al.length ≤ x.length
  | [], x, h => Nat.zero_le _
  | p :: r, x, ⟨q, z, h1, h2, h3⟩ => by
    have := LAs.len h2
    rw [h3]
    simp [prL]
    omega

theorem attrs_readL {l : Bs} : ∀ (al : List Att) (x : Bs) (k : Nat) (s : St) (acc : List Att) (bl : Bs) (b : UInt8) (rest : Bs), l.drop s.at_ = x ++ (bl ++ b :: rest) → LAs al x → (bl = [] ∨ bl = [32, 9]) → (b = 47 ∨ b = 62) → (∀ p ∈ al, nameL p.1.data.toList = true ∧ (tans p.2.data.toList).2 = 0) → (acc ++ al).length ≤ 32 → Dist (acc ++ al) → al.length + 1 ≤ k →
    attrsF l k s acc = .inl (sortA (acc ++ al), { s with at_ := s.at_ + x.length + bl.length })
  | [], x, k, s, acc, bl, b, rest, h, hx, hbl, hb, _, _, _, hk => by
    obtain ⟨k', rfl⟩ : ∃ k', k = k' + 1 := ⟨k - 1, by omega⟩
    have hx0 : x = [] := hx
    subst hx0
    have hbb : blankB b.toNat = false := by rcases hb with rfl | rfl <;> decide
    rcases hbl with rfl | rfl
    · have h' : l.drop s.at_ = b :: rest := by simpa using h
      rw [attrsF, blanks_none h' hbb, get_drop h']
      simp [hb]
    · have h' : l.drop s.at_ = 32 :: 9 :: b :: rest := by simpa using h
      have h2 := drop_one (drop_one h')
      rw [attrsF, blanks_two h' (by decide) (by decide) hbb]
      simp only
      rw [get_drop h2]
      simp [hb]
  | p :: al, x, k, s, acc, bl, b, rest, h, hx, hbl, hb, ha, hl, hd, hk => by
    obtain ⟨k', rfl⟩ : ∃ k', k = k' + 1 := ⟨k - 1, by simp at hk; omega⟩
    obtain ⟨q, z, hq, hz, rfl⟩ := hx
    obtain ⟨hn, hv⟩ := ha p (by simp)
    obtain ⟨c, u, hcu, hc⟩ := name_head hn
    have h1 : l.drop s.at_ = 10 :: 32 :: (p.1.data.toList ++ (61 :: q :: ((eans true p.2.data.toList).1 ++ q :: (z ++ (bl ++ b :: rest))))) := by
      rw [h, prL]
      simp [List.append_assoc]
    have hbk := begin_blank hc
    have h1' : l.drop s.at_ = 10 :: 32 :: c :: (u ++ (61 :: q :: ((eans true p.2.data.toList).1 ++ q :: (z ++ (bl ++ b :: rest))))) := by rw [h1, hcu]; rfl
    have hb1 := blanks_two h1' (by decide) (by decide) hbk
    have h2 : l.drop (s.at_ + 2) = p.1.data.toList ++ (61 :: q :: ((eans true p.2.data.toList).1 ++ q :: (z ++ (bl ++ b :: rest)))) := drop_one (drop_one h1)
    have hlen : acc.length < 32 := by simp at hl; omega
    have hne : ∀ x ∈ acc, x.1.toList ≠ p.1.toList := by
      intro x hx
      have := List.pairwise_append.1 hd
      exact this.2.2 x hx p (by simp)
    have hat := attr_readL (s := { s with at_ := s.at_ + 2 }) q hq hn hv h2 hlen hne
    have hg : l[s.at_ + 2]? = some c := get_drop (by rw [h2, hcu]; rfl)
    have hc4 : ¬ (c = 47 ∨ c = 62) := by
      have := begin_ne hc
      exact fun e => e.elim this.2.2.1 this.2.2.2.1
    have hfin : l.drop (s.at_ + (prL q p).length) = z ++ (bl ++ b :: rest) := drop_more (l := l) (a := s.at_) (x := prL q p) (by rw [h, List.append_assoc])
    have hln : (prL q p).length = 2 + (p.1.data.toList.length + 2 + (eans true p.2.data.toList).1.length + 1) := by
      simp [prL]; omega
    have hstate : ({ s with at_ := s.at_ + 2 + p.1.data.toList.length + 2 + (eans true p.2.data.toList).1.length + 1 } : St) = { s with at_ := s.at_ + (prL q p).length } := by
      rw [hln]; congr 1; omega
    have ih := attrs_readL al z k' { s with at_ := s.at_ + (prL q p).length } (acc ++ [p]) bl b rest hfin hz hbl hb (fun x hx => ha x (by simp [hx])) (by simpa using hl) (by simpa using hd) (by simp at hk; omega)
    rw [attrsF, hb1]
    simp only [hg, hc4, if_false]
    rw [if_neg (by omega)]
    rw [hat]
    simp only
    rw [hstate, ih]
    simp [Nat.add_assoc]

theorem attrs_reversed {l : List Att} (h : attrsGo none l = 0) : Dist l.reverse ∧ sortA l.reverse = l := by
  obtain ⟨-, hp⟩ := attrsGo_lt l none h
  have hd : Dist l := (attrs_sorted h).1
  have hr : Dist l.reverse := List.pairwise_reverse.2 (hd.imp (fun {a b} hab e => hab e.symm))
  refine ⟨hr, ?_⟩
  refine (uniq_sorted (lt := fun a b => ltA a b = true) ltA_irr ltA_asym _ _ ((sortA_perm l.reverse).trans (List.reverse_perm l)) (sortA_strict hr) (hp.imp (fun {a b} hab => ?_)))
  rw [ltA_eq]; simpa using hab

theorem end_readL {l n rest : Bs} {s : St} (hn : nameL n = true) (h : l.drop s.at_ = [60, 47] ++ n ++ [32, 62] ++ rest) : endP l n s = .inl ((), { s with at_ := s.at_ + (n.length + 4) }) := by
  have i32 : inB (32 : UInt8).toNat = false := by decide
  have b62 : blankB (62 : UInt8).toNat = false := by decide
  have h0 : l.drop s.at_ = 60 :: (47 :: (n ++ (32 :: 62 :: rest))) := by rw [h]; simp
  have h1 := drop_one h0
  have h2 := drop_one h1
  have hnm := name_read (s := { s with at_ := s.at_ + 1 + 1 }) hn h2 (fun b r e => by cases e; exact i32)
  have h3 := drop_more h2
  have h4 := drop_one h3
  unfold endP
  rw [expect_read h0]
  simp only
  rw [expect_read (s := { s with at_ := s.at_ + 1 }) h1]
  simp only [hnm, if_true]
  rw [blanks_one (s := { s with at_ := s.at_ + 1 + 1 + n.length }) h3 b62, expect_read (s := { s with at_ := s.at_ + 1 + 1 + n.length + 1 }) h4]
  simp only [Sum.inl.injEq, Prod.mk.injEq, true_and]
  congr 1
  omega

end Go.Proofs.YtmifejkddgcbmaaGreat
