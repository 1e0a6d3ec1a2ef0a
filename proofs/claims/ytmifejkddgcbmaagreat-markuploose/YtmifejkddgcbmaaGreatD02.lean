/- What is written loosely reads as it was, in plain: elements, forests. -/
import Derived.Test.YtmifejkddgcbmaaGreatD01
import Derived.Test.YtmifejkddgcbmaaGreatC04
import Derived.Lib.AppendStr
namespace Go.Proofs.YtmifejkddgcbmaaGreat
open Go.RowKit
set_option linter.unusedVariables false
set_option linter.unusedSimpArgs false

/-- Siblings, written loosely: remarks ahead of each. -/
def LF {n : Nat} (R : T n → Bs → Prop) : List (T n) → Bs → Prop
  | [], x => x = []
  | t :: r, x => ∃ bs y z, R t y ∧ LF R r z ∧ x = rems bs ++ (y ++ z)
/-- How an element ends. -/
def LEnd {n : Nat} (R : List (T n) → Bs → Prop) (nm : Bs) (ks : List (T n)) (z : Bs) : Prop := (ks = [] ∧ z = [47, 62]) ∨ ∃ kx, R ks kx ∧ z = 62 :: (kx ++ ([60, 47] ++ nm ++ [32, 62]))
/-- A tree, written loosely. -/
def LT : (n : Nat) → T n → Bs → Prop
  | 0, _, _ => False
  | n + 1, t, x => (t.kind = 2 ∧ x = (eans false t.text.data.toList).1) ∨
      (t.kind ≠ 2 ∧ ∃ al y bl z, (al = t.attrs ∨ al = t.attrs.reverse) ∧ LAs al y ∧ (bl = [] ∨ bl = [32, 9]) ∧ LEnd (LF (LT n)) t.name.data.toList t.kids z ∧ x = 60 :: (t.name.data.toList ++ (y ++ (bl ++ z))))

def SibLo (l : Bs) (d : Nat) : Prop := ∀ (L : List (T d)) (x : Bs) (s : St) (rest : Bs), l.drop s.at_ = x ++ rest → LF (LT d) L x → Fin rest → s.at_ ≤ l.length → Canon d L → s.op + d = 64 → s.nodes + (L.map (cnt d)).sum ≤ 4096 →
  sibP l d s = .inl (L, { s with at_ := s.at_ + x.length, nodes := s.nodes + (L.map (cnt d)).sum })

theorem lend_head {n : Nat} {R : List (T n) → Bs → Prop} {nm : Bs} {ks : List (T n)} {z : Bs} (h : LEnd R nm ks z) : ∃ b r, z = b :: r ∧ (b = 47 ∨ b = 62) := by
  rcases h with ⟨-, rfl⟩ | ⟨kx, -, rfl⟩
  · exact ⟨47, [62], rfl, .inl rfl⟩
  · exact ⟨62, _, rfl, .inr rfl⟩

/-- The beginning of an element. -/
theorem lt_head {n r : Nat} {t : T n} {x : Bs} (hk : kindT n t ≠ 2) (hok : okD n r t) (h : LT n t x) : ∃ b u, x = 60 :: b :: u ∧ beginB b.toNat = true := by
  cases n with
  | zero => exact (t : Empty).elim
  | succ m =>
    obtain ⟨-, ho, -⟩ := hok
    obtain ⟨h1, h2, -⟩ := own_el ho hk
    obtain ⟨b, u, hbu, hb⟩ := name_head h2
    rcases h with ⟨e, -⟩ | ⟨-, al, y, bl, z, -, -, -, -, rfl⟩
    · exact absurd e hk
    · exact ⟨b, u ++ (y ++ (bl ++ z)), by rw [hbu]; rfl, hb⟩
theorem lt_stop {n r : Nat} {t : T n} {x : Bs} (hk : kindT n t ≠ 2) (hok : okD n r t) (h : LT n t x) (rest : Bs) : Stop (x ++ rest) := by
  obtain ⟨b, u, h, hb⟩ := lt_head hk hok h
  exact .inr ⟨b, u ++ rest, by rw [h]; rfl, .inr hb⟩

theorem las_head {al : List Att} {y : Bs} (h : LAs al y) : y = [] ∨ ∃ r, y = 10 :: r := by
  cases al with
  | nil => exact .inl h
  | cons p r =>
    obtain ⟨q, z, -, -, rfl⟩ := h
    exact .inr ⟨_, rfl⟩

theorem el_readL {l : Bs} {d : Nat} (ih : SibLo l d) {t : T (d + 1)} {s : St} {x rest : Bs} (h : l.drop s.at_ = x ++ rest) (hx : LT (d + 1) t x) (hat : s.at_ ≤ l.length) (hc : canT (d + 1) t) (hok : okD (d + 1) (d + 1) t) (hk : t.kind ≠ 2) (hop : s.op + (d + 1) = 64) (hn : s.nodes + cnt (d + 1) t ≤ 4096) :
    elemP l (sibP l d) s = .inl (t, { s with at_ := s.at_ + x.length, nodes := s.nodes + cnt (d + 1) t }) := by
  obtain ⟨-, hown, hkok⟩ := hok
  obtain ⟨hk1, hnm, hal, hgo, hats, hkT⟩ := own_el hown hk
  rw [hkT] at hkok
  rcases hc with ⟨e, -⟩ | ⟨-, hte, hkc, hno⟩
  · exact absurd e hk
  rcases hx with ⟨e, -⟩ | ⟨-, al, y, bl, z, hor, hla, hbl, hend, rfl⟩
  · exact absurd e hk
  have hdso : Dist al ∧ sortA al = t.attrs ∧ al.length ≤ 32 ∧ ∀ p ∈ al, nameL p.1.data.toList = true ∧ (tans p.2.data.toList).2 = 0 := by
    rcases hor with rfl | rfl
    · exact ⟨(attrs_sorted hgo).1, (attrs_sorted hgo).2, hal, hats⟩
    · exact ⟨(attrs_reversed hgo).1, (attrs_reversed hgo).2, by simpa using hal, fun p hp => hats p (by simpa using hp)⟩
  obtain ⟨hds, hso, hal2, hats2⟩ := hdso
  have hcnt : cnt (d + 1) t = 1 + (t.kids.map (cnt d)).sum := by rw [cnt, hkT]
  rw [hcnt] at hn ⊢
  have hb : beginP s s.at_ = .inl ((), { s with nodes := s.nodes + 1 }) := by
    unfold beginP
    rw [if_neg (by omega)]
  have h1 : l.drop (s.at_ + 1) = t.name.data.toList ++ (y ++ (bl ++ z) ++ rest) := by
    have := drop_one h
    exact this.trans (List.append_assoc _ _ _)
  obtain ⟨zb, zr, hze, hzb⟩ := lend_head hend
  have hb32 : inB (32 : UInt8).toNat = false := by decide
  have hb10 : inB (10 : UInt8).toNat = false := by decide
  have hzi : inB zb.toNat = false := by rcases hzb with rfl | rfl <;> decide
  have hnr := name_read (s := { s with at_ := s.at_ + 1, nodes := s.nodes + 1 }) hnm h1 (fun b r e => by
    rcases las_head hla with rfl | ⟨yr, rfl⟩
    · rcases hbl with rfl | rfl
      · rw [hze] at e; simp at e; rw [← e.1]; exact hzi
      · simp at e; rw [← e.1]; exact hb32
    · simp at e; rw [← e.1]; exact hb10)
  have h2 := drop_more h1
  have h3 : l.drop (s.at_ + 1 + t.name.data.toList.length) = y ++ (bl ++ zb :: (zr ++ rest)) := by rw [h2, hze]; simp
  have hap : attrsP l { s with at_ := s.at_ + 1 + t.name.data.toList.length, nodes := s.nodes + 1 } = .inl (t.attrs, { s with at_ := s.at_ + 1 + t.name.data.toList.length + y.length + bl.length, nodes := s.nodes + 1 }) := by
    have hlen := drop_len h3
    have hll := hla.len
    have := attrs_readL al y (l.length - (s.at_ + 1 + t.name.data.toList.length) + 1) { s with at_ := s.at_ + 1 + t.name.data.toList.length, nodes := s.nodes + 1 } [] bl zb (zr ++ rest) h3 hla hbl hzb hats2 (by simpa using hal2) (by simpa using hds) (by rw [hlen, List.length_append]; omega)
    unfold attrsP
    rw [this, List.nil_append, hso]
  have h4 : l.drop (s.at_ + 1 + t.name.data.toList.length + y.length + bl.length) = z ++ rest := by
    have := drop_more (drop_more h3)
    rw [this, hze]; rfl
  unfold elemP
  rw [hb]
  simp only
  rw [hnr]
  simp only
  rw [hap]
  rcases hend with ⟨hk0, rfl⟩ | ⟨kx, hkx, rfl⟩
  · have h5 := drop_one h4
    simp only [get_drop h4, if_true]
    rw [expect_read (s := { s with at_ := s.at_ + 1 + t.name.data.toList.length + y.length + bl.length + 1, nodes := s.nodes + 1 }) h5]
    simp only
    rw [hk0] at hte
    simp only [Sum.inl.injEq, Prod.mk.injEq]
    refine ⟨hte.symm, ?_⟩
    rw [hk0]
    simp only [List.length_cons, List.length_append, List.length_nil, List.map_nil, List.sum_nil]
    congr 1
    omega
  · have h4' : l.drop (s.at_ + 1 + t.name.data.toList.length + y.length + bl.length) = 62 :: (kx ++ ([60, 47] ++ t.name.data.toList ++ [32, 62] ++ rest)) := by rw [h4]; simp [List.append_assoc]
    have h5 := drop_one h4'
    have hne : ¬ (62 : UInt8) = 47 := by decide
    simp only [get_drop h4', hne, if_false]
    rw [expect_read (s := { s with at_ := s.at_ + 1 + t.name.data.toList.length + y.length + bl.length, nodes := s.nodes + 1 }) h4']
    simp only
    have hlt4 := drop_lt h4'
    have hcan : Canon d t.kids := ⟨fun k hk => ⟨hkc k hk, by have := hkok k hk; simpa using this⟩, hno⟩
    have hsb := ih t.kids kx { s with at_ := s.at_ + 1 + t.name.data.toList.length + y.length + bl.length + 1, nodes := s.nodes + 1, op := s.op + 1 } ([60, 47] ++ t.name.data.toList ++ [32, 62] ++ rest) h5 hkx (.inr ⟨t.name.data.toList ++ [32, 62] ++ rest, by simp⟩) (by simp only; omega) hcan (by simp only; omega) (by simp only; omega)
    rw [hsb]
    simp only
    have h6 := drop_more h5
    rw [end_readL (s := { s with at_ := s.at_ + 1 + t.name.data.toList.length + y.length + bl.length + 1 + kx.length, nodes := s.nodes + 1 + (t.kids.map (cnt d)).sum, op := s.op + 1 - 1 }) hnm h6]
    simp only [Sum.inl.injEq, Prod.mk.injEq]
    refine ⟨hte.symm, ?_⟩
    have e1 : s.op + 1 - 1 = s.op := by omega
    rw [e1]
    simp only [List.length_cons, List.length_append, List.length_nil]
    congr 1 <;> omega

theorem sib_readL {l : Bs} {d : Nat} (ih : SibLo l d) : ∀ (L : List (T (d + 1))) (x : Bs) (k : Nat) (s : St) (acc : List (T (d + 1))) (rest : Bs), l.drop s.at_ = x ++ rest → LF (LT (d + 1)) L x → Fin rest → s.at_ ≤ l.length → Canon (d + 1) L → s.op + (d + 1) = 64 → s.nodes + (L.map (cnt (d + 1))).sum ≤ 4096 → L.length + 1 ≤ k →
    sibF l (elemP l (sibP l d)) k s acc = .inl (acc ++ L, { s with at_ := s.at_ + x.length, nodes := s.nodes + (L.map (cnt (d + 1))).sum })
  | [], x, k, s, acc, rest, h, hx, hf, hat, hc, hop, hn, hk => by
    obtain ⟨k', rfl⟩ : ∃ k', k = k' + 1 := ⟨k - 1, by omega⟩
    have hx0 : x = [] := hx
    subst hx0
    have h' : l.drop s.at_ = rest := by simpa using h
    rw [sibF, wordsP_none h' hf.stop]
    simp only
    rw [if_pos (hf.sees h' hat)]
    simp
  | t :: L, x, k, s, acc, rest, h, hx, hf, hat, hc, hop, hn, hk => by
    obtain ⟨k', rfl⟩ : ∃ k', k = k' + 1 := ⟨k - 1, by omega⟩
    obtain ⟨b0, y, z, hy, hz, rfl⟩ := hx
    obtain ⟨hct, hokt⟩ := hc.1 t (by simp)
    have hcL : Canon (d + 1) L := ⟨fun x hx => hc.1 x (by simp [hx]), hc.2.tail⟩
    have h0 : l.drop s.at_ = rems b0 ++ (y ++ (z ++ rest)) := by rw [h]; simp [List.append_assoc]
    clear h
    rw [List.map_cons, List.sum_cons] at hn ⊢
    rw [List.length_cons] at hk
    by_cases hk2 : t.kind = 2
    · -- a text
      obtain ⟨hte, htn⟩ : t = txtT t.text.data.toList ∧ t.text.data.toList ≠ [] := by
        rcases hct with ⟨-, h2, h3⟩ | ⟨h1, -⟩
        · exact ⟨h2, h3⟩
        · omega
      have hpt : y = (eans false t.text.data.toList).1 := by
        rcases hy with ⟨-, e⟩ | ⟨e, -⟩
        · exact e
        · exact absurd hk2 e
      have htx : (tans t.text.data.toList).2 = 0 := by
        have := hokt.2.1
        unfold ownE at this
        rw [if_neg (by omega), if_pos hk2] at this
        exact this
      have hct1 : cnt (d + 1) t = 1 := by
        have hkT : kidsT t = [] := if_neg (by omega)
        rw [cnt, hkT]; rfl
      rw [hct1] at hn ⊢
      subst hpt
      cases L with
      | nil =>
        have hz0 : z = [] := hz
        subst hz0
        have h' : l.drop s.at_ = rems b0 ++ ((eans false t.text.data.toList).1 ++ (rems [] ++ rest)) := by simpa [rems] using h0
        have hw := wordsP_readL (s := s) b0 [] htx h' hf.stop (fun _ => ⟨by simp at hn; omega, by omega⟩)
        have h2 : l.drop (s.at_ + (rems b0).length + (eans false t.text.data.toList).1.length) = rest := by
          have := drop_more (drop_more h')
          simpa [rems] using this
        have hl2 := drop_len h'
        have hle : s.at_ + (rems b0).length + (eans false t.text.data.toList).1.length ≤ l.length := by
          simp only [List.length_append] at hl2; omega
        rw [sibF, hw]
        simp only [htn, if_false]
        rw [show s.at_ + (rems b0).length + (eans false t.text.data.toList).1.length + (rems []).length = s.at_ + (rems b0).length + (eans false t.text.data.toList).1.length from rfl]
        rw [if_pos (hf.sees h2 hle)]
        rw [← hte]
        simp [Nat.add_assoc]
      | cons e L' =>
        obtain ⟨b1, y1, z1, hy1, hz1, rfl⟩ := hz
        obtain ⟨hce, hoke⟩ := hc.1 e (by simp)
        have hke : e.kind ≠ 2 := fun x => hc.2.1 ⟨hk2, x⟩
        have h' : l.drop s.at_ = rems b0 ++ ((eans false t.text.data.toList).1 ++ (rems b1 ++ (y1 ++ (z1 ++ rest)))) := by rw [h0]; simp [List.append_assoc]
        have hke' : kindT (d + 1) e ≠ 2 := hke
        have hst : Stop (y1 ++ (z1 ++ rest)) := lt_stop hke' hoke hy1 _
        have hw := wordsP_readL (s := s) b0 b1 htx h' hst (fun _ => ⟨by omega, by omega⟩)
        have h2 := drop_more (drop_more (drop_more h'))
        have hl2 := drop_len h2
        obtain ⟨b, u, hbu, hb⟩ := lt_head (r := d + 1) hke' hoke hy1
        have hnoend : ¬ (s.at_ + (rems b0).length + (eans false t.text.data.toList).1.length + (rems b1).length = l.length ∨ seesP l [60, 47] (s.at_ + (rems b0).length + (eans false t.text.data.toList).1.length + (rems b1).length) = true) := by
          rintro (e1 | e1)
          · rw [hbu] at hl2; simp at hl2; omega
          · have hb47 : ¬ (47 : UInt8) = b := fun e => (begin_ne hb).2.2.1 e.symm
            simp [seesP, h2, hbu, List.isPrefixOf, hb47] at e1
        rw [List.map_cons, List.sum_cons] at hn ⊢
        have hlt := drop_lt (l := l) (a := s.at_ + (rems b0).length + (eans false t.text.data.toList).1.length + (rems b1).length) (c := 60) (r := b :: u ++ (z1 ++ rest)) (by rw [h2, hbu]; rfl)
        have her := el_readL ih (s := { s with at_ := s.at_ + (rems b0).length + (eans false t.text.data.toList).1.length + (rems b1).length, nodes := s.nodes + 1 }) h2 hy1 (Nat.le_of_lt hlt) hce hoke hke hop (by simp only; omega)
        have h3 := drop_more h2
        have hcL' : Canon (d + 1) L' := ⟨fun x hx => hc.1 x (by simp [hx]), hcL.2.tail⟩
        have hatL : s.at_ + (rems b0).length + (eans false t.text.data.toList).1.length + (rems b1).length + y1.length ≤ l.length := by
          rw [List.length_append] at hl2; omega
        have hrec := sib_readL ih L' z1 k' { s with at_ := s.at_ + (rems b0).length + (eans false t.text.data.toList).1.length + (rems b1).length + y1.length, nodes := s.nodes + 1 + cnt (d + 1) e } (acc ++ [t] ++ [e]) rest h3 hz1 hf hatL hcL' hop (by simp only; omega) (by simp at hk; omega)
        rw [sibF, hw]
        simp only [htn, if_false, hnoend, her]
        rw [← hte, hrec]
        simp only [List.append_assoc, List.cons_append, List.nil_append, List.length_append, Nat.add_assoc]
    · -- an element
      have hk2' : kindT (d + 1) t ≠ 2 := hk2
      have hst : Stop (y ++ (z ++ rest)) := lt_stop hk2' hokt hy _
      have hw := wordsP_noneL b0 h0 hst
      obtain ⟨b, u, hbu, hb⟩ := lt_head (r := d + 1) hk2' hokt hy
      have h2 := drop_more h0
      have hl2 := drop_len h2
      have hnoend : ¬ (s.at_ + (rems b0).length = l.length ∨ seesP l [60, 47] (s.at_ + (rems b0).length) = true) := by
        rintro (e1 | e1)
        · rw [hbu] at hl2; simp at hl2; omega
        · have hb47 : ¬ (47 : UInt8) = b := fun e => (begin_ne hb).2.2.1 e.symm
          simp [seesP, h2, hbu, List.isPrefixOf, hb47] at e1
      have hlt := drop_lt (l := l) (a := s.at_ + (rems b0).length) (c := 60) (r := b :: u ++ (z ++ rest)) (by rw [h2, hbu]; rfl)
      have her := el_readL ih (s := { s with at_ := s.at_ + (rems b0).length }) h2 hy (Nat.le_of_lt hlt) hct hokt hk2 hop (by simp only; omega)
      have h3 := drop_more h2
      have hatL : s.at_ + (rems b0).length + y.length ≤ l.length := by
        rw [List.length_append] at hl2; omega
      have hrec := sib_readL ih L z k' { s with at_ := s.at_ + (rems b0).length + y.length, nodes := s.nodes + cnt (d + 1) t } (acc ++ [t]) rest h3 hz hf hatL hcL hop (by simp only; omega) (by omega)
      rw [sibF, hw]
      simp only [hnoend, if_false, if_true, her]
      rw [hrec]
      simp only [List.append_assoc, List.cons_append, List.nil_append, List.length_append, Nat.add_assoc]

theorem lf_len {n : Nat} : ∀ (L : List (T n)) (x : Bs), Canon n L → LF (LT n) L x → L.length ≤ x.length
  | [], x, _, _ => Nat.zero_le _
  | t :: L, x, h, ⟨b0, y, z, hy, hz, e⟩ => by
    have ih := lf_len L z ⟨fun x hx => h.1 x (by simp [hx]), h.2.tail⟩ hz
    obtain ⟨hc, ho⟩ := h.1 t (by simp)
    have : 1 ≤ y.length := by
      by_cases hk : kindT n t = 2
      · have hp := prF_len [t] ⟨fun x hx => by simp at hx; subst hx; exact ⟨hc, ho⟩, trivial⟩
        cases n with
        | zero => exact (t : Empty).elim
        | succ m =>
          have hk2 : t.kind = 2 := hk
          rcases hy with ⟨-, e⟩ | ⟨e, -⟩
          · have hpt : prT (m + 1) t = (eans false t.text.data.toList).1 := by
              show (if t.kind = 2 then _ else _) = _
              rw [if_pos hk2]
            rw [e, ← hpt]
            simpa [prF] using hp
          · exact absurd hk2 e
      · obtain ⟨b, u, e, -⟩ := lt_head hk ho hy
        rw [e]; simp
    rw [e]
    simp only [List.length_append, List.length_cons]
    omega

theorem sib_lo (l : Bs) : ∀ d, SibLo l d
  | 0 => fun L x s rest h hx hf hat hc hop hn => by
    have hL : L = [] := by
      cases L with
      | nil => rfl
      | cons t r => exact (t : Empty).elim
    subst hL
    have hx0 : x = [] := hx
    subst hx0
    have h' : l.drop s.at_ = rest := by simpa using h
    show (match wordsP l s with | .inr (p, e) => _ | .inl (t, s1) => _) = _
    rw [wordsP_none h' hf.stop]
    simp only
    rw [if_pos (hf.sees h' hat)]
    simp
  | d + 1 => fun L x s rest h hx hf hat hc hop hn => by
    have hl := drop_len h
    have := sib_readL (sib_lo l d) L x (l.length - s.at_ + 1) s [] rest h hx hf hat hc hop hn (by rw [hl, List.length_append]; have := lf_len L x hc hx; omega)
    show sibF l (elemP l (sibP l d)) (l.length - s.at_ + 1) s [] = _
    rw [this, List.nil_append]

/-- A forest as Parse makes it, written loosely, is read as it was. -/
theorem parse_loose {L : List (T 64)} {x : Bs} (hx : LF (LT 64) L x) (hc : Canon 64 L) (hn : (L.map (cnt 64)).sum ≤ 4096) (hl : x.length ≤ 262144) : parseP x = .inl L := by
  have h := sib_lo x 64 L x ⟨0, 0, 0⟩ [] (by simp) hx (.inl rfl) (by simp) hc rfl (by simpa using hn)
  unfold parseP
  rw [if_neg (by omega)]
  unfold forestP
  rw [h]
  simp

end Go.Proofs.YtmifejkddgcbmaaGreat

/- Bytes under way, in a row of one's own: a string put behind them. -/
namespace Go.Proofs.YtmifejkddgcbmaaGreat
open Go.RowKit
set_option linter.unusedVariables false
set_option linter.unusedSimpArgs false

theorem infoB : InfoOf Tryz.prog 5 (.int .u8 0) 1 1 := by unfold InfoOf; kernel_rfl

theorem cells_app (a b : Bs) : Lib.byteCells (a ++ b) = Lib.byteCells a ++ Lib.byteCells b := by simp [Lib.byteCells]
theorem strCells_eq (s : ByteArray) : Lib.strCells s = Lib.byteCells s.data.toList := rfl

theorem run_puts (w : World) (ty : TypeId) (B : Nat) (va : Option Addr) (vcap : Nat) (bs : Bs) (hown : w.ownsRow B 5 1 (.slice va bs.length vcap) bs.length (Lib.byteCells bs)) (s : ByteArray) (hb : bs.length + s.size ≤ 100000000) (hbase : B ≤ w.heap.size) :
    ∃ va' vcap' w', (Builtin.append_ #[41, 9] ty #[.slice va bs.length vcap, .string s]).run Tryz.prog w = .ok (.slice va' (bs ++ s.data.toList).length vcap') w' ∧ w'.ownsRow B 5 1 (.slice va' (bs ++ s.data.toList).length vcap') (bs ++ s.data.toList).length (Lib.byteCells (bs ++ s.data.toList)) ∧
      w.grownBy w' (Value.slice va bs.length vcap).ownBlock ∧ ((Value.slice va' (bs ++ s.data.toList).length vcap').ownBlock = (Value.slice va bs.length vcap).ownBlock ∨ (Value.slice va' (bs ++ s.data.toList).length vcap').ownBlock = some w.heap.size) := by
  obtain ⟨i, hi0, hz0, hz1, hz2⟩ := infoB.parts
  obtain ⟨v', w', hr, h2, h3, h4⟩ := Lib.run_append_own_string (P := Tryz.prog) w B 41 9 ty 5 i Tryz.underlying41 Tryz.underlying9 hi0 hz0 hz1 hz2 _ _ _ hown s (by unfold maxLen; omega) (by omega) hbase
  obtain ⟨va', vcap', rfl⟩ := own_slice h2
  have hlen : bs.length + s.size = (bs ++ s.data.toList).length := by rw [List.length_append, size_list]
  rw [hlen, strCells_eq, ← cells_app] at h2
  rw [hlen] at hr h4
  refine ⟨va', vcap', w', hr, h2, h3, ?_⟩
  rcases hown.2 with ⟨e, hn⟩ | ⟨g, cap, cur, e, hbg, hg, hnc, hcm, hcs, htake⟩
  · rw [e] at hr ⊢
    have hbs : bs = [] := List.eq_nil_of_length_eq_zero hn
    by_cases hs : s.size = 0
    · have hv : Value.slice va' (bs ++ s.data.toList).length vcap' = .slice none 0 0 := h4.2 ⟨e, hs⟩
      rw [hv]; exact .inl rfl
    · have hr2 := run_append_nil_string (P := Tryz.prog) w 41 9 ty 5 i (.int .u8 0) Tryz.underlying41 Tryz.underlying9 hi0 hz0 s (by omega) (by omega) (by rw [hz2]; omega)
      rw [hr2] at hr
      injection hr with hr _
      rw [← hr]
      exact .inr rfl
  · rw [e] at hr ⊢
    by_cases hroom : bs.length + s.size ≤ cap
    · have hr2 := Lib.run_append_room_string (P := Tryz.prog) w 41 9 ty 5 i Tryz.underlying41 Tryz.underlying9 hi0 hz1 g bs.length cap cur hg s hroom (by simp at hcs; omega)
      rw [hr2] at hr
      injection hr with hr _
      rw [← hr]
      exact .inl rfl
    · have holds : ∀ j u, (Lib.byteCells bs)[j]? = some u → w.cell? ((⟨g, 0, none⟩ : Addr).add j) = some u := by
        rw [e] at hown
        exact hown.cells (g := g) rfl
      have hr2 := Lib.run_append_grow_string (P := Tryz.prog) w 41 9 ty 5 i (.int .u8 0) Tryz.underlying41 Tryz.underlying9 hi0 hz0 ⟨g, 0, none⟩ bs.length cap (Lib.byteCells bs) (by rw [hz1]; simp [Lib.byteCells]) holds s (by omega) (by omega) (by rw [hz2]; exact growslice_fits (by omega) (by omega))
      rw [hr2] at hr
      injection hr with hr _
      rw [← hr]
      exact .inr rfl

/-- At the operation, for the walk. -/
theorem wpList_puts {w : World} {ops : Array Oper} {rest : List Oper} {o : Oper} {ac : Act} {Q : Exit → Act → World → Prop} (hgd : o.guard = none) (sl x : Operand)
    (ho : o.op = .call { callee := .builtin .append, args := #[sl, x], argTypes := #[41, 9] }) (B : Nat) (va : Option Addr) (vcap : Nat) (bs : Bs) (hs : ac.eval sl = .slice va bs.length vcap) (hown : w.ownsRow B 5 1 (.slice va bs.length vcap) bs.length (Lib.byteCells bs)) (s : ByteArray) (hx : ac.eval x = .string s) (hb : bs.length + s.size ≤ 100000000) (hbase : B ≤ w.heap.size)
    (hK : ∀ (bs' : Bs) va' vcap' w', bs' = bs ++ s.data.toList → w'.ownsRow B 5 1 (.slice va' bs'.length vcap') bs'.length (Lib.byteCells bs') → w.grownBy w' (Value.slice va bs.length vcap).ownBlock → ((Value.slice va' bs'.length vcap').ownBlock = (Value.slice va bs.length vcap).ownBlock ∨ (Value.slice va' bs'.length vcap').ownBlock = some w.heap.size) → wpList Tryz.prog ops Q rest (ac.put o.dst (.slice va' bs'.length vcap')) w') : wpList Tryz.prog ops Q (o :: rest) ac w := by
  refine wpList_plain hgd fun K hK' => ?_
  obtain ⟨va', vcap', w', hr, h2, h3, h4⟩ := run_puts w o.type B va vcap bs hown s hb hbase
  unfold Oper.wp execOp
  simp only [ho, resolve, invoke, builtin, Sem.run_bind, Sem.run_pure, Result.andThen_ok, List.map_toArray, List.map_cons, List.map_nil, hs, hx, hr]
  exact hK' _ _ (hK _ va' vcap' w' rfl h2 h3 h4)

/-- Bytes under way, from a world on. -/
structure BSt (B : Nat) (w0 wr : World) (o0 : Option Nat) (bs : Bs) (va : Option Addr) (vcap : Nat) : Prop where
  own : wr.ownsRow B 5 1 (.slice va bs.length vcap) bs.length (Lib.byteCells bs)
  turn : Turn (fun b => o0 = some b) w0 wr
  blk : (Value.slice va bs.length vcap).ownBlock = o0 ∨ ∃ g, (Value.slice va bs.length vcap).ownBlock = some g ∧ w0.heap.size ≤ g
  base : B ≤ w0.heap.size
  lo : ∀ g, o0 = some g → B ≤ g ∧ g < w0.heap.size

theorem BSt.refl {B : Nat} {w : World} {bs : Bs} {va : Option Addr} {vcap : Nat} (h : w.ownsRow B 5 1 (.slice va bs.length vcap) bs.length (Lib.byteCells bs)) (hB : B ≤ w.heap.size) : BSt B w w (Value.slice va bs.length vcap).ownBlock bs va vcap :=
  ⟨h, Turn.refl _ _, .inl rfl, hB, fun g hg => own_block_lt h g hg⟩
theorem BSt.size {B : Nat} {w0 wr : World} {o0 : Option Nat} {bs : Bs} {va : Option Addr} {vcap : Nat} (h : BSt B w0 wr o0 bs va vcap) : w0.heap.size ≤ wr.heap.size := h.turn.size
/-- What lies below is as it was. -/
theorem BSt.low {B : Nat} {w0 wr : World} {o0 : Option Nat} {bs : Bs} {va : Option Addr} {vcap : Nat} (h : BSt B w0 wr o0 bs va vcap) : Below B w0 wr := h.turn.below h.base (fun k hk => (h.lo k hk).1)
/-- Any other block is as it was. -/
theorem BSt.other {B : Nat} {w0 wr : World} {o0 : Option Nat} {bs : Bs} {va : Option Addr} {vcap : Nat} (h : BSt B w0 wr o0 bs va vcap) {b : Nat} (hb : b < w0.heap.size) (ho : o0 ≠ some b) : wr.heap[b]? = w0.heap[b]? := h.turn.block b hb ho
theorem BSt.below {B : Nat} {w0 wr w2 : World} {o0 : Option Nat} {bs : Bs} {va : Option Addr} {vcap : Nat} (h : BSt B w0 wr o0 bs va vcap) (hb : Below wr.heap.size wr w2) : BSt B w0 w2 o0 bs va vcap :=
  ⟨own_of_block h.own (fun k hk => hb.block k (own_block_lt h.own k hk).2), h.turn.then hb h.size, h.blk, h.base, h.lo⟩
theorem BSt.trans {B : Nat} {w0 w1 w2 : World} {o0 : Option Nat} {bs bs2 : Bs} {va va2 : Option Addr} {vcap vcap2 : Nat} (h : BSt B w0 w1 o0 bs va vcap) (h2 : BSt B w1 w2 (Value.slice va bs.length vcap).ownBlock bs2 va2 vcap2) : BSt B w0 w2 o0 bs2 va2 vcap2 := by
  have hs := h.size
  refine ⟨h2.own, ⟨h2.turn.os.trans h.turn.os, h2.turn.tape.trans h.turn.tape, h2.turn.output.trans h.turn.output, Nat.le_trans hs h2.size, fun b hb ho => (h2.turn.block b (by omega) ?_).trans (h.turn.block b hb ho)⟩, ?_, h.base, h.lo⟩
  · intro e
    rcases h.blk with e2 | ⟨g, e2, hg⟩
    · rw [e2] at e; exact ho e
    · rw [e2] at e; cases e; omega
  · rcases h2.blk with e | ⟨g, e, hg⟩
    · rcases h.blk with e2 | ⟨g, e2, hg⟩
      · exact .inl (e.trans e2)
      · exact .inr ⟨g, e.trans e2, hg⟩
    · exact .inr ⟨g, e, by omega⟩
theorem BSt.put {B : Nat} {w0 w1 w2 : World} {o0 : Option Nat} {bs bs2 : Bs} {va va2 : Option Addr} {vcap vcap2 : Nat} (h : BSt B w0 w1 o0 bs va vcap) (hown : w2.ownsRow B 5 1 (.slice va2 bs2.length vcap2) bs2.length (Lib.byteCells bs2)) (hg : w1.grownBy w2 (Value.slice va bs.length vcap).ownBlock)
    (hat : (Value.slice va2 bs2.length vcap2).ownBlock = (Value.slice va bs.length vcap).ownBlock ∨ ∃ g, (Value.slice va2 bs2.length vcap2).ownBlock = some g ∧ w1.heap.size ≤ g) : BSt B w0 w2 o0 bs2 va2 vcap2 :=
  h.trans ⟨hown, ⟨hg.os, hg.tape, hg.output, hg.size, fun b hb ho => hg.block b hb (fun e => ho e.symm)⟩, hat, Nat.le_trans h.base h.size, fun g hg => own_block_lt h.own g hg⟩

theorem any_take {l : Bs} {j : Nat} {b : UInt8} (h : l[j]? = some b) : (l.take (j + 1)).any (· == 39) = ((l.take j).any (· == 39) || b == 39) := by
  rw [take_more h, List.any_append]
  simp

set_option maxRecDepth 100000 in
set_option maxHeartbeats 2000000 in
theorem has_any (w : World) (s : ByteArray) (hs : s.size ≤ 100000000) (r : Bool) (hr : s.data.toList.any (· == 39) = r) : Calls Tryz.prog 33 #[.string s, .int .u8 39] w fun e w' => e = .returned (.bool r) ∧ w' = w := by
  have HR : Hid (s.data.toList.any (· == 39) = r) := hr
  clear hr
  have HSZ : Hid (s.data.toList.length = s.size) := size_list s
  have HAN : Hid (∀ j, (s.data.toList.take j).any (· == 39) = true → s.data.toList.any (· == 39) = true) := fun j hj => by
    rw [List.any_eq_true] at hj ⊢
    obtain ⟨x, hx, h⟩ := hj
    exact ⟨x, List.mem_of_mem_take hx, h⟩
  go_enter Tryz.func33, Tryz.ntmps33
  go_wp2
  go_loop [5] (fun v => ∃ i : Nat, i ≤ s.size ∧ v = .int .i64 (i : Int) ∧ Hid ((s.data.toList.take i).any (· == 39) = false)) (fun v => s.size - (intOf v).toNat)
  case atStart => exact ⟨0, by omega, rfl, by show _ = _; simp⟩
  case round =>
    obtain ⟨j, hj, rfl, hno⟩ := hrel
    by_cases hlt : j < s.size
    · have t0 : (0 : Int) ≤ (j : Int) := by omega
      have t1 : (j : Int) < (s.size : Int) := by omega
      have hgj : s.data.toList[j]? = some (s[j]'hlt) := get_some hlt
      have hat := any_take hgj
      by_cases hb : (s[j]'hlt) = 39
      · have HE : Hid (r = true) := HR.out.symm.trans (HAN.out (j + 1) (by rw [hat, hb]; simp))
        have hbn : (((s[j]'hlt).toNat : Int) == 39) = true := by rw [hb]; rfl
        clear hno hgj hat HAN
        go_wp2
        go_ret
        exact ⟨by rw [HE.out]; rfl, rfl⟩
      · have HG : Hid ((s.data.toList.take (j + 1)).any (· == 39) = false) := by show _ = _; rw [hat, hno.out]; simp [hb]
        have hbn : (((s[j]'hlt).toNat : Int) == 39) = false := by
          rw [beq_eq_false_iff_ne]
          intro e
          exact hb (UInt8.toNat_inj.1 (by show (s[j]'hlt).toNat = 39; omega))
        clear hno hgj hb hat HAN
        go_wp2
        go_round
        case rel => exact ⟨j + 1, by omega, by go_num, HG⟩
        case measure => simp [intOf]; omega
    · have HE : Hid (r = false) := by
        show _ = _
        have := hno.out
        rw [List.take_of_length_le (by rw [HSZ.out]; omega)] at this
        exact HR.out.symm.trans this
      have t1 : ¬ (j : Int) < (s.size : Int) := by omega
      clear hno HAN
      go_wp2
      go_ret
      exact ⟨by rw [HE.out]; rfl, rfl⟩

end Go.Proofs.YtmifejkddgcbmaaGreat
