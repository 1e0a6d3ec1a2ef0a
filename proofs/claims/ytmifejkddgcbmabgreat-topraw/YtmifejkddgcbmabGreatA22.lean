/- What is printed reads as it was, in plain: attributes, elements, forests. -/
import Derived.Test.YtmifejkddgcbmabGreatA21
import Derived.Test.YtmifejkddgcbmabGreatA20
namespace Go.Proofs.YtmifejkddgcbmabGreat
open Go.RowKit
set_option linter.unusedVariables false
set_option linter.unusedSimpArgs false

theorem begin_blank {b : UInt8} (h : beginB b.toNat = true) : blankB b.toNat = false := by
  have hb := b.toNat_lt
  unfold beginB at h
  unfold blankB
  simp only [decide_eq_true_eq, decide_eq_false_iff_not] at h ⊢
  omega
theorem blanks_none {l : Bs} {s : St} {b : UInt8} {r : Bs} (h : l.drop s.at_ = b :: r) (hb : blankB b.toNat = false) : blanksP l s = s := by
  unfold blanksP runN
  rw [h]
  simp [hb]
theorem blanks_one {l : Bs} {s : St} {b : UInt8} {r : Bs} (h : l.drop s.at_ = 32 :: b :: r) (hb : blankB b.toNat = false) : blanksP l s = { s with at_ := s.at_ + 1 } := by
  have h32 : blankB 32 = true := by decide
  unfold blanksP runN
  rw [h]
  simp [hb, h32]

theorem name_head {n : Bs} (h : nameL n = true) : ∃ b u, n = b :: u ∧ beginB b.toNat = true := by
  have hl := nameL_len h
  cases n with
  | nil => simp at hl
  | cons b u =>
    unfold nameL at h
    simp only [Bool.and_eq_true, List.take_succ_cons, List.take_zero, List.all_cons, List.all_nil, Bool.and_true] at h
    exact ⟨b, u, rfl, h.1.2⟩

theorem ba_data (x : ByteArray) : ba x.data.toList = x := by
  cases x; rfl

/-- A text that can be, as it is printed. -/
theorem eans_piece {q : Bool} {x : Bs} (h : (tans x).2 = 0) : (eans q x).1 = (scan x).1.flatMap (piece q) ∧ bytes (scan x).1 = x ∧ (∀ r ∈ (scan x).1, Ch r) ∧ x.length ≤ 16384 := by
  obtain ⟨h1, h2, h3⟩ := tans_ok h
  refine ⟨?_, h2.symm, h3, h1⟩
  rw [eans, if_pos h]
  show escL q x = _
  rw [← escL_bytes q _ h3, ← h2]

theorem prA_eq {p : Att} (h : (tans p.2.data.toList).2 = 0) : prA p = 32 :: (p.1.data.toList ++ (61 :: 34 :: ((scan p.2.data.toList).1.flatMap (piece true) ++ [34]))) := by
  unfold prA
  rw [(eans_piece h).1]
  simp

theorem attr_read {l : Bs} {s : St} {p : Att} {acc : List Att} {rest : Bs} (hn : nameL p.1.data.toList = true) (hv : (tans p.2.data.toList).2 = 0) (h : l.drop s.at_ = p.1.data.toList ++ (61 :: 34 :: ((scan p.2.data.toList).1.flatMap (piece true) ++ 34 :: rest))) (hl : acc.length < 32) (hd : ∀ x ∈ acc, x.1.toList ≠ p.1.toList) :
    attrP l acc s = .inl (p, { s with at_ := s.at_ + p.1.data.toList.length + 2 + ((scan p.2.data.toList).1.flatMap (piece true)).length + 1 }) := by
  obtain ⟨e1, e2, e3, e4⟩ := eans_piece (q := true) hv
  have i61 : inB (61 : UInt8).toNat = false := by decide
  have hnm := name_read (s := s) hn h (fun b r e => by cases e; exact i61)
  have h1 := drop_more h
  have h2 : l.drop (s.at_ + p.1.data.toList.length + 1) = 34 :: ((scan p.2.data.toList).1.flatMap (piece true) ++ 34 :: rest) := by
    have := drop_more (x := [61]) (y := 34 :: ((scan p.2.data.toList).1.flatMap (piece true) ++ 34 :: rest)) (by rw [h1]; rfl)
    simpa using this
  have h3 : l.drop (s.at_ + p.1.data.toList.length + 1 + 1) = (scan p.2.data.toList).1.flatMap (piece true) ++ 34 :: rest := by
    have := drop_more (x := [34]) (y := (scan p.2.data.toList).1.flatMap (piece true) ++ 34 :: rest) (by rw [h2]; rfl)
    simpa using this
  have hx : expectP l 61 { s with at_ := s.at_ + p.1.data.toList.length } = .inl ((), { s with at_ := s.at_ + p.1.data.toList.length + 1 }) := by
    unfold expectP
    rw [get_drop h1]
    simp
  have hlen := drop_len h2
  have hvf := value_read (scan p.2.data.toList).1 (l.length - (s.at_ + p.1.data.toList.length + 1)) { s with at_ := s.at_ + p.1.data.toList.length + 1 + 1 } [] rest h3 e3 (by rw [e2]; simpa using e4) (by rw [hlen]; simp)
  have hvp : valueP l { s with at_ := s.at_ + p.1.data.toList.length + 1 } = .inl (p.2.data.toList, { s with at_ := s.at_ + p.1.data.toList.length + 1 + 1 + ((scan p.2.data.toList).1.flatMap (piece true)).length + 1 }) := by
    unfold valueP
    rw [get_drop h2]
    simp only [true_or, if_true]
    rw [hvf, e2]
    rfl
  have ha : acc.any (fun x => x.1.toList == (ba p.1.data.toList).toList) = false := by
    rw [ba_data]
    rw [List.any_eq_false]
    intro x hx
    simpa using hd x hx
  unfold attrP
  rw [hnm]
  simp only [Nat.ne_of_lt hl, if_false, ha, Bool.false_eq_true, hx, hvp]
  rw [ba_data, ba_data]

theorem attrs_read {l : Bs} : ∀ (al : List Att) (k : Nat) (s : St) (acc : List Att) (b : UInt8) (rest : Bs), l.drop s.at_ = al.flatMap prA ++ b :: rest → (b = 47 ∨ b = 62) → (∀ p ∈ al, nameL p.1.data.toList = true ∧ (tans p.2.data.toList).2 = 0) → (acc ++ al).length ≤ 32 → Dist (acc ++ al) → al.length + 1 ≤ k →
    attrsF l k s acc = .inl (sortA (acc ++ al), { s with at_ := s.at_ + (al.flatMap prA).length })
  | [], k, s, acc, b, rest, h, hb, _, _, _, hk => by
    obtain ⟨k', rfl⟩ : ∃ k', k = k' + 1 := ⟨k - 1, by omega⟩
    have hbl : blankB b.toNat = false := by rcases hb with rfl | rfl <;> decide
    have h' : l.drop s.at_ = b :: rest := by simpa using h
    rw [attrsF, blanks_none h' hbl, get_drop h']
    simp [hb]
  | p :: al, k, s, acc, b, rest, h, hb, ha, hl, hd, hk => by
    obtain ⟨k', rfl⟩ : ∃ k', k = k' + 1 := ⟨k - 1, by simp at hk; omega⟩
    obtain ⟨hn, hv⟩ := ha p (by simp)
    obtain ⟨c, u, hcu, hc⟩ := name_head hn
    have hpr := prA_eq (p := p) hv
    have h1 : l.drop s.at_ = 32 :: (p.1.data.toList ++ (61 :: 34 :: ((scan p.2.data.toList).1.flatMap (piece true) ++ 34 :: (al.flatMap prA ++ b :: rest)))) := by
      rw [h, List.flatMap_cons, hpr]
      simp [List.append_assoc]
    have hbl := begin_blank hc
    have h1' : l.drop s.at_ = 32 :: c :: (u ++ (61 :: 34 :: ((scan p.2.data.toList).1.flatMap (piece true) ++ 34 :: (al.flatMap prA ++ b :: rest)))) := by rw [h1, hcu]; rfl
    have hb1 := blanks_one h1' hbl
    have h2 : l.drop (s.at_ + 1) = p.1.data.toList ++ (61 :: 34 :: ((scan p.2.data.toList).1.flatMap (piece true) ++ 34 :: (al.flatMap prA ++ b :: rest))) := by
      have := drop_more (x := [32]) (by rw [h1]; rfl)
      simpa using this
    have hlen : acc.length < 32 := by simp at hl; omega
    have hne : ∀ x ∈ acc, x.1.toList ≠ p.1.toList := by
      intro x hx
      have := List.pairwise_append.1 hd
      exact this.2.2 x hx p (by simp)
    have hat := attr_read (s := { s with at_ := s.at_ + 1 }) hn hv h2 hlen hne
    have hg : l[s.at_ + 1]? = some c := get_drop (by rw [h2, hcu]; rfl)
    have hc4 : ¬ (c = 47 ∨ c = 62) := by
      have := begin_ne hc
      exact fun e => e.elim this.2.2.1 this.2.2.2.1
    have hfin : l.drop (s.at_ + (prA p).length) = al.flatMap prA ++ b :: rest := by
      have := drop_more (l := l) (a := s.at_) (x := prA p) (y := al.flatMap prA ++ b :: rest) (by rw [h, List.flatMap_cons, List.append_assoc])
      exact this
    have hln : (prA p).length = 1 + (p.1.data.toList.length + 2 + ((scan p.2.data.toList).1.flatMap (piece true)).length + 1) := by
      rw [hpr]; simp; omega
    have hstate : ({ s with at_ := s.at_ + 1 + p.1.data.toList.length + 2 + ((scan p.2.data.toList).1.flatMap (piece true)).length + 1 } : St) = { s with at_ := s.at_ + (prA p).length } := by
      rw [hln]; congr 1; omega
    have ih := attrs_read al k' { s with at_ := s.at_ + (prA p).length } (acc ++ [p]) b rest hfin hb (fun x hx => ha x (by simp [hx])) (by simpa using hl) (by simpa using hd) (by simp at hk; omega)
    rw [attrsF, hb1]
    simp only [hg, hc4, if_false]
    rw [if_neg (by omega)]
    rw [hat]
    simp only
    rw [hstate, ih]
    simp [List.flatMap_cons, Nat.add_assoc]

/-- Attributes that can be are in their order. -/
theorem attrsGo_lt : ∀ (l : List Att) (prev : Option ByteArray), attrsGo prev l = 0 → (∀ q, prev = some q → ∀ p ∈ l, q.toList < p.1.toList) ∧ l.Pairwise fun a b => a.1.toList < b.1.toList
  | [], _, _ => ⟨fun _ _ p hp => by simp at hp, List.Pairwise.nil⟩
  | p :: r, prev, h => by
    rw [attrsGo] at h
    split at h
    · omega
    · rename_i h1
      split at h
      · obtain ⟨i1, i2⟩ := attrsGo_lt r (some p.1) h
        have hp := i1 p.1 rfl
        refine ⟨fun q hq x hx => ?_, List.pairwise_cons.2 ⟨fun x hx => hp x hx, i2⟩⟩
        have hqp : q.toList < p.1.toList := by
          have hle : leB p.1 q = false := by
            cases hl : leB p.1 q
            · rfl
            · exact absurd (.inr ⟨q, hq, hl⟩) h1
          unfold leB at hle
          simp only [Bool.or_eq_false_iff, beq_eq_false_iff_ne] at hle
          have := ltA_tri (a := (q, q)) (b := p) (fun e => hle.2 e.symm) hle.1
          rw [ltA_eq] at this
          simpa using this
        rcases List.mem_cons.1 hx with rfl | hx
        · exact hqp
        · exact List.lt_trans hqp (hp x hx)
      · rename_i h2
        exact absurd h h2
theorem attrs_sorted {l : List Att} (h : attrsGo none l = 0) : Dist l ∧ sortA l = l := by
  obtain ⟨-, hp⟩ := attrsGo_lt l none h
  have hd : Dist l := hp.imp (fun {a b} hab e => by rw [e] at hab; exact List.lt_irrefl _ hab)
  refine ⟨hd, ?_⟩
  refine (uniq_sorted (lt := fun a b => ltA a b = true) ltA_irr ltA_asym _ _ (sortA_perm l) (sortA_strict hd) (hp.imp (fun {a b} hab => ?_)))
  rw [ltA_eq]; simpa using hab

end Go.Proofs.YtmifejkddgcbmabGreat

/- The attributes of an element, as the reader reads them. -/
namespace Go.Proofs.YtmifejkddgcbmabGreat
open Go.RowKit
set_option linter.unusedVariables false
set_option linter.unusedSimpArgs false

theorem valueF_ok {l : Bs} {q : UInt8} : ∀ (k : Nat) (s s1 : St) (o o1 : Bs), s.at_ ≤ l.length → valueF l q k s o = .inl (o1, s1) → s.at_ ≤ s1.at_ ∧ s1.at_ ≤ l.length ∧ s1.nodes = s.nodes ∧ s1.op = s.op := by
  intro k
  induction k with
  | zero => intro s s1 o o1 hs h; cases h; exact ⟨Nat.le_refl _, hs, rfl, rfl⟩
  | succ k ih =>
    intro s s1 o o1 hs h
    unfold valueF at h
    cases hg : l[s.at_]? with
    | none => rw [hg] at h; cases h
    | some b =>
      have hlt := (List.getElem?_eq_some_iff.1 hg).1
      rw [hg] at h
      simp only at h
      split at h
      · cases h; exact ⟨by simp only; omega, by simp only; omega, rfl, rfl⟩
      · split at h
        · cases h
        · cases hp : letterP l s with
          | inr q_ => obtain ⟨p, e⟩ := q_; rw [hp] at h; cases h
          | inl q_ =>
            obtain ⟨x, s2⟩ := q_
            rw [hp] at h
            simp only at h
            cases hgr : growP s2 o x s.at_ with
            | inr q_ => obtain ⟨p, e⟩ := q_; rw [hgr] at h; cases h
            | inl q_ =>
              obtain ⟨o2, s3⟩ := q_
              rw [hgr] at h
              simp only at h
              obtain ⟨e1, -, -⟩ := growP_ok hgr
              obtain ⟨g1, g2, g3, g4, -⟩ := letterP_ok hp
              subst e1
              obtain ⟨f1, f2, f3, f4⟩ := ih _ _ _ _ g2 h
              exact ⟨by omega, f2, f3.trans g3, f4.trans g4⟩

theorem valueP_ok {l : Bs} {s s1 : St} {x : Bs} (h : valueP l s = .inl (x, s1)) : s.at_ < s1.at_ ∧ s1.at_ ≤ l.length ∧ s1.nodes = s.nodes ∧ s1.op = s.op := by
  unfold valueP at h
  cases hg : l[s.at_]? with
  | none => rw [hg] at h; cases h
  | some q =>
    have hlt := (List.getElem?_eq_some_iff.1 hg).1
    rw [hg] at h
    simp only at h
    split at h
    · obtain ⟨f1, f2, f3, f4⟩ := valueF_ok _ _ _ _ _ (by simp only; omega) h
      exact ⟨by simp only at f1; omega, f2, f3, f4⟩
    · cases h

theorem attrP_ok {l : Bs} {L : List Att} {s s1 : St} {a : Att} (h : attrP l L s = .inl (a, s1)) (hl : L.length ≤ 32) : s.at_ < s1.at_ ∧ s1.at_ ≤ l.length ∧ s1.nodes = s.nodes ∧ s1.op = s.op ∧ L.length < 32 ∧ (∀ x ∈ L, x.1.toList ≠ a.1.toList) := by
  unfold attrP at h
  cases hn : nameP l s with
  | inr q_ => obtain ⟨p, e⟩ := q_; rw [hn] at h; cases h
  | inl q_ =>
    obtain ⟨n, s2⟩ := q_
    rw [hn] at h
    simp only at h
    obtain ⟨e1, -, -, e2, e3, -⟩ := nameP_ok hn
    split at h
    · cases h
    · split at h
      · cases h
      · rename_i h32 hany
        cases hx : expectP l 61 s2 with
        | inr q_ => obtain ⟨p, e⟩ := q_; rw [hx] at h; cases h
        | inl q_ =>
          obtain ⟨u, s3⟩ := q_
          rw [hx] at h
          simp only at h
          obtain ⟨e4, e5⟩ := expectP_ok hx
          cases hv : valueP l s3 with
          | inr q_ => obtain ⟨p, e⟩ := q_; rw [hv] at h; cases h
          | inl q_ =>
            obtain ⟨v, s4⟩ := q_
            rw [hv] at h
            cases h
            obtain ⟨f1, f2, f3, f4⟩ := valueP_ok hv
            subst e4 e1
            simp only at f1 f3 f4
            refine ⟨by omega, f2, f3, f4, by omega, fun x hx he => hany ?_⟩
            rw [List.any_eq_true]
            exact ⟨x, hx, by simpa using he⟩

theorem attrCells_app (l m : List Att) : attrCells (l ++ m) = attrCells l ++ attrCells m := by
  induction l with
  | nil => rfl
  | cons a r ih => simp [attrCells, ih]

/-- What the loop of 'attrs' keeps. -/
def AttrsSt (w : World) (b : Nat) (tx : ByteArray) (s : St) (v : Value) (wr : World) (acc : List Att) (s' : St) (k : Nat) : Prop :=
  acc.length ≤ 32 ∧ Dist acc ∧ tx.size - s'.at_ < k ∧ wr.ownsRow w.heap.size 84 2 v acc.length (attrCells acc) ∧ attrsP tx.data.toList s = attrsF tx.data.toList k s' acc ∧ Rd wr b tx s' ∧ Ok tx s' ∧ Turn (fun x => x = b ∨ w.heap.size ≤ x) w wr

theorem own_row_none (w : World) (B : Nat) : w.ownsRow B 84 2 (.slice none 0 0) ([] : List Att).length (attrCells []) := ⟨rfl, .inl ⟨rfl, rfl⟩⟩
theorem own_row_to {w w' : World} {B : Nat} {e : TypeId} {sz : Nat} {v : Value} {n : Nat} {xs : List Value} (h : w.ownsRow B e sz v n xs) {A : Nat → Prop} (ht : Turn A w w') (hA : ∀ k, B ≤ k → ¬ A k) : w'.ownsRow B e sz v n xs :=
  own_of_block h (fun k hk => ht.block k (World.ownsRow.lt h k hk).2 (hA k (World.ownsRow.lt h k hk).1))

theorem attrsF_step {l : Bs} {k : Nat} {s : St} {acc : List Att} {c : UInt8} (h : l[(blanksP l s).at_]? = some c) (h1 : ¬ (c = 47 ∨ c = 62)) (h2 : (blanksP l s).at_ ≠ s.at_) : attrsF l (k + 1) s acc = match attrP l acc (blanksP l s) with
    | .inr (p, e) => .inr (p, e)
    | .inl (a, s1) => attrsF l k s1 (acc ++ [a]) := by
  simp only [attrsF, h, h1, h2, if_false]
  cases attrP l acc (blanksP l s) <;> rfl

set_option maxRecDepth 100000 in
set_option maxHeartbeats 4000000 in
theorem attrs_any (w : World) (b : Nat) (tx : ByteArray) (s : St) (h : Rd w b tx s) (ok : Ok tx s) :
    Calls Tryz.prog 69 #[.pointer (some ⟨b, 0, none⟩)] w (Post w b tx (· = b) (attrsP tx.data.toList s) fun L e w' => ∃ a cap, e = .returned (.slice a L.length cap) ∧ w'.ownsRow w.heap.size 84 2 (.slice a L.length cap) L.length (attrCells L)) := by
  have hbw := h.facts.2.2.2.2.2.2.2
  have HW : Hid (AttrsSt w b tx s (.slice none 0 0) w [] s (tx.size - s.at_ + 1)) := ⟨by simp, List.Pairwise.nil, by omega, own_row_none _ _, by unfold attrsP; rw [size_list], h, ok, Turn.refl _ _⟩
  have k1 := ok.len
  have hfl := fun W (p : Nat) (e : Int) => fail_any W (.pointer (some ⟨b, 0, none⟩)) p e
  clear h ok
  go_enter Tryz.func69, Tryz.ntmps69
  go_wp2
  go_loopw [3] (fun v3 wr => ∃ (acc : List Att) (s' : St) (k : Nat), Hid (AttrsSt w b tx s v3 wr acc s' k)) (fun _ wr => tx.size - atOf wr b)
  case atStart => exact ⟨[], s, _, HW⟩
  case round =>
    clear HW
    obtain ⟨acc, s', k, hrel⟩ := hrel
    obtain ⟨hol, hdi, hk, hown, hgo, hr, hok, ht⟩ := hrel.out
    clear hrel
    obtain ⟨k, rfl⟩ : ∃ j, k = j + 1 := ⟨k - 1, by omega⟩
    obtain ⟨va, vcap, rfl⟩ := own_slice hown
    have hbl := blanks_any wr b tx s' hr hok
    have HK1 : Hid (Ok tx (blanksP tx.data.toList s')) := hok.blanks
    have HR : Hid (Rd wr b tx s') := hr
    have HO : Hid (wr.ownsRow w.heap.size 84 2 (.slice va acc.length vcap) acc.length (attrCells acc)) := hown
    have HT : Hid (Turn (fun x => x = b ∨ w.heap.size ≤ x) w wr) := ht
    have HGO : Hid (attrsP tx.data.toList s = attrsF tx.data.toList (k + 1) s' acc) := hgo
    have HDI : Hid (Dist acc) := hdi
    have hsz := ht.size
    have hble : s'.at_ ≤ (blanksP tx.data.toList s').at_ := by simp [blanksP]
    have HS1 : Hid ((blanksP tx.data.toList s').nodes = s'.nodes ∧ (blanksP tx.data.toList s').op = s'.op) := ⟨rfl, rfl⟩
    have HST : Hid (∀ c, tx.data.toList[(blanksP tx.data.toList s').at_]? = some c → ¬ (c = 47 ∨ c = 62) → (blanksP tx.data.toList s').at_ ≠ s'.at_ → attrsP tx.data.toList s = match attrP tx.data.toList acc (blanksP tx.data.toList s') with
      | .inr (p, e) => .inr (p, e)
      | .inl (a, s1) => attrsF tx.data.toList k s1 (acc ++ [a])) := fun c h1 h2 h3 => hgo.trans (attrsF_step h1 h2 h3)
    have HEN : Hid (tx.data.toList[(blanksP tx.data.toList s').at_]? = none → attrsP tx.data.toList s = .inr ((blanksP tx.data.toList s').at_, 4)) := fun h1 => by rw [hgo]; simp only [attrsF, h1]
    have HSO : Hid (∀ c, tx.data.toList[(blanksP tx.data.toList s').at_]? = some c → (c = 47 ∨ c = 62) → attrsP tx.data.toList s = .inl ((sortA acc), (blanksP tx.data.toList s'))) := fun c h1 h2 => by rw [hgo]; simp only [attrsF, h1, h2, if_true]
    have HNA : Hid (∀ c, tx.data.toList[(blanksP tx.data.toList s').at_]? = some c → ¬ (c = 47 ∨ c = 62) → (blanksP tx.data.toList s').at_ = s'.at_ → attrsP tx.data.toList s = .inr (s'.at_, 3)) := fun c h1 h2 h3 => by have h1' := h1; rw [h3] at h1'; rw [hgo]; simp only [attrsF, h3, h1', h2, if_true, if_false]
    clear hown hr hok ht hgo HGO hdi
    generalize blanksP tx.data.toList s' = s1 at *
    go_wp2_with fail
    refine hbl.mono ?_
    rintro e w1 ⟨rfl, hr1, ht1⟩
    have hnd := need_any w1 b tx s1 hr1 HK1.out
    have HR1 : Hid (Rd w1 b tx s1) := hr1
    have HO1 : Hid (w1.ownsRow w.heap.size 84 2 (.slice va acc.length vcap) acc.length (attrCells acc)) := own_row_to HO.out ht1 (fun k hk e => by omega)
    have HT1 : Hid (Turn (fun x => x = b ∨ w.heap.size ≤ x) w w1) := HT.out.trans (ht1.mono (fun k _ e => .inl e))
    clear hbl hr1 ht1 HO HT
    by_cases hlt : s1.at_ < tx.size
    · rw [needP_at hlt] at hnd
      have ge := get_some hlt
      by_cases hc : tx[s1.at_]'hlt = 47 ∨ tx[s1.at_]'hlt = 62
      · have HG : Hid (attrsP tx.data.toList s = .inl ((sortA acc), s1)) := HSO.out _ ge hc
        have hc2 : (((tx[s1.at_]'hlt).toNat : Int) == 47) = true ∨ ((((tx[s1.at_]'hlt).toNat : Int) == 47) = false ∧ (((tx[s1.at_]'hlt).toNat : Int) == 62) = true) := by
          rcases hc with hc | hc
          · left; rw [hc]; rfl
          · right; rw [hc]; exact ⟨rfl, rfl⟩
        clear HSO HNA HEN HST ge hc
        generalize tx[s1.at_]'hlt = c at *
        go_wp2_with fail
        refine hnd.mono ?_
        rintro e w2 ⟨⟨rfl, hb2⟩, hr2, -⟩
        have HO2 : Hid (w2.ownsRow w.heap.size 84 2 (.slice va acc.length vcap) acc.length (attrCells acc)) := owns_below HO1.out hb2
        have HT2 : Hid (Turn (fun x => x = b ∨ w.heap.size ≤ x) w w2) := HT1.out.then hb2 HT1.out.size
        have HR2 : Hid (Rd w2 b tx s1) := hr2
        have hso := sort_any w2 w.heap.size acc va vcap HO2.out HDI.out hol
        have hlen : (sortA acc).length = acc.length := (sortA_perm acc).length_eq
        clear hnd hb2 hr2 HO1 HT1 HR1
        rcases hc2 with ta | ⟨ta, tb⟩ <;> (
          go_wp2_with fail
          refine hso.mono ?_
          rintro e w3 ⟨rfl, ho3, ht3⟩
          have HO3 : Hid (w3.ownsRow w.heap.size 84 2 (.slice va acc.length vcap) acc.length (attrCells (sortA acc))) := ho3
          have HR3 : Hid (Rd w3 b tx s1) := HR2.out.of_block (ht3.block b HR2.out.facts.2.2.2.2.2.2.2 (by omega)) (ht3.block 0 (by have := HR2.out.facts.2.2.2.2.2.2.2; omega) (by omega))
          have HT3 : Hid (Turn (fun x => x = b) w w3) := turn_in (HT2.out.trans (ht3.mono (fun k _ e => .inr e)))
          have HLEN : Hid ((sortA acc).length = acc.length) := hlen
          clear hso ho3 ht3 hlen
          go_wp2
          go_ret
          exact Post.yes HG.out ⟨va, vcap, by rw [HLEN.out]; rfl, by rw [HLEN.out]; exact HO3.out⟩ HR3.out HT3.out)
      · have t47 : (((tx[s1.at_]'hlt).toNat : Int) == 47) = false := by
          have : (tx[s1.at_]'hlt).toNat ≠ 47 := fun e => hc (.inl (UInt8.toNat_inj.1 e))
          simp; omega
        have t62 : (((tx[s1.at_]'hlt).toNat : Int) == 62) = false := by
          have : (tx[s1.at_]'hlt).toNat ≠ 62 := fun e => hc (.inr (UInt8.toNat_inj.1 e))
          simp; omega
        by_cases hap : s'.at_ < s1.at_
        · have HG : Hid (attrsP tx.data.toList s = match attrP tx.data.toList acc s1 with
            | .inr (p, e) => .inr (p, e)
            | .inl (a, s1) => attrsF tx.data.toList k s1 (acc ++ [a])) := HST.out _ ge hc (by omega)
          have tap : decide (s'.at_ < s1.at_) = true := by simpa using hap
          clear HSO HNA HEN HST ge hc
          generalize tx[s1.at_]'hlt = c at *
          go_wp2_with fail
          refine hnd.mono ?_
          rintro e w2 ⟨⟨rfl, hb2⟩, hr2, -⟩
          have HO2 : Hid (w2.ownsRow w.heap.size 84 2 (.slice va acc.length vcap) acc.length (attrCells acc)) := owns_below HO1.out hb2
          have HT2 : Hid (Turn (fun x => x = b ∨ w.heap.size ≤ x) w w2) := HT1.out.then hb2 HT1.out.size
          obtain ⟨hrl, -, -⟩ := attrs_row HO2.out rfl
          have hat := attr_any w2 b tx s1 hr2 HK1.out _ va vcap acc hrl (fun k hk => ⟨hk.2.2, by have := hk.2.1; omega⟩) hol
          clear hnd hb2 hr2 HO1 HT1 HR1 hrl
          cases hx : attrP tx.data.toList acc s1 with
          | inr q_ =>
            obtain ⟨p, e⟩ := q_
            rw [hx] at hat
            have HG2 : Hid (attrsP tx.data.toList s = .inr (p, e)) := by show attrsP _ _ = _; rw [HG.out, hx]
            clear hx HG
            go_wp2_with fail
            refine hat.mono ?_
            rintro e w3 ⟨rfl, ht3⟩
            exact ⟨rfl, Post.no HG2.out ((turn_in HT2.out).trans ht3)⟩
          | inl q_ =>
            obtain ⟨a, s2⟩ := q_
            rw [hx] at hat
            have HG2 : Hid (attrsP tx.data.toList s = attrsF tx.data.toList k s2 (acc ++ [a])) := by show attrsP _ _ = _; rw [HG.out, hx]
            obtain ⟨g1, g2, g3, g4, g5, g6⟩ := attrP_ok hx hol
            rw [size_list] at g2
            have HDI2 : Hid (Dist (acc ++ [a])) := by
              show Dist _
              unfold Dist
              rw [List.pairwise_append]
              refine ⟨HDI.out, by simp, fun x hx' y hy => ?_⟩
              simp only [List.mem_singleton] at hy
              subst hy
              exact g6 x hx'
            have HK2 : Hid (Ok tx s2) := ⟨k1, g2, by rw [g3]; exact HK1.out.nodes, by rw [g4]; exact HK1.out.op⟩
            obtain ⟨a1, a2⟩ := a
            clear hx HG g6
            go_wp2_with fail
            refine hat.mono ?_
            rintro e w3 ⟨rfl, hr3, ht3⟩
            have HO3 : Hid (w3.ownsRow w.heap.size 84 2 (.slice va acc.length vcap) acc.length (attrCells acc)) := own_row_to HO2.out ht3 (fun k hk e => by omega)
            have HT3 : Hid (Turn (fun x => x = b ∨ w.heap.size ≤ x) w w3) := HT2.out.trans (ht3.mono (fun k _ e => .inl e))
            have HR3 : Hid (Rd w3 b tx s2) := hr3
            have hs3 := HT3.out.size
            clear hat hr3 ht3 HO2 HT2
            have tok2 : True := trivial
            go_wp2_with (at_builtin; have _t := tok2; refine wpList_app rfl _ _ rfl Tryz.underlying32 infoA rfl (by decide) w.heap.size (.slice va acc.length vcap) acc.length (attrCells acc) rfl (own_of_block HO3.out (fun k hk => Below.heap_alloc _ _ _ (own_block_lt HO3.out k hk).2)) (some ⟨w3.heap.size, 0, none⟩) 1 1 (attrCells [(a1, a2)]) rfl rfl (by have := news_new w3 #[.string a1, .string a2] 84; simpa [attrCells] using this) (attrCells_one _) (by unfold maxLen; omega) (by omega) (by simp; omega) ?_; intro v3 w4 hown3 hg3 _ hat3; clear tok2 _t; obtain ⟨la', lcap', hv3⟩ := own_slice hown3; subst hv3)
            have hb3 := HR3.out.facts.2.2.2.2.2.2.2
            have hrow : ∀ k, k < w.heap.size → w4.heap[k]? = w3.heap[k]? := fun k hk => by
              rw [hg3.block k (by simp; omega) (fun e => by have := (own_block_lt HO3.out k e.symm).1; omega), Below.heap_alloc _ _ _ (by omega)]
            have hr4 : Rd w4 b tx s2 := HR3.out.of_block (hrow b hbw) (hrow 0 (by omega))
            have ht4 : Turn (fun x => x = b ∨ w.heap.size ≤ x) w w4 := ⟨hg3.os.trans HT3.out.os, hg3.tape.trans HT3.out.tape, hg3.output.trans HT3.out.output, by have := hg3.size; simp at this; omega, fun k hk ha => (hrow k hk).trans (HT3.out.block k hk ha)⟩
            have hlen : (acc ++ [(a1, a2)]).length = acc.length + 1 := by simp
            refine ⟨⟨acc ++ [(a1, a2)], s2, k, by omega, HDI2.out, by omega, ?_, HG2.out, hr4, HK2.out, ht4⟩, ?_⟩
            · rw [hlen, attrCells_app]; exact hown3
            · rw [hr4.atOf, HR.out.atOf]; omega
        · have hap2 : s1.at_ = s'.at_ := by omega
          have HG : Hid (attrsP tx.data.toList s = .inr (s1.at_, 3)) := by rw [hap2]; exact HNA.out _ ge hc hap2
          have tap : decide (s'.at_ < s1.at_) = false := by simpa using hap
          clear HSO HNA HEN HST ge hc hap2 hap
          generalize tx[s1.at_]'hlt = c at *
          go_wp2_with fail
          refine hnd.mono ?_
          rintro e w2 ⟨⟨rfl, hb2⟩, hr2, -⟩
          have HT2 : Hid (Turn (fun x => x = b ∨ w.heap.size ≤ x) w w2) := HT1.out.then hb2 HT1.out.size
          obtain ⟨h0, h1, h2, h3, f1, f2, f3, hbb⟩ := hr2.facts
          clear hnd hb2 hr2
          go_wp2_with fail
          refine (hfl _ _ _).mono ?_
          rintro e w3 ⟨rfl, rfl⟩
          exact ⟨rfl, Post.no HG.out (turn_in HT2.out)⟩
    · rw [needP_no hlt] at hnd
      have HG : Hid (attrsP tx.data.toList s = .inr (s1.at_, 4)) := HEN.out (get_no (Nat.le_of_not_lt hlt))
      clear HSO HNA HEN HST hlt
      go_wp2_with fail
      refine hnd.mono ?_
      rintro e w2 ⟨rfl, ht2⟩
      exact ⟨rfl, Post.no HG.out ((turn_in HT1.out).trans ht2)⟩

end Go.Proofs.YtmifejkddgcbmabGreat
