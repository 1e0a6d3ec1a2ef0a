/- What every document keeps, kept: Move. -/
import Derived.Test.YtjkgjckkglfokabL10
import Derived.Lib.Bytealg
import Derived.Shelf.Abstract
namespace Go.Proofs.Ytjkgjckkglfokab.Gr
open Go.RowKit
set_option linter.unusedVariables false
set_option linter.unusedSimpArgs false

theorem setPar_of {D : Dc} {n p : Nat} {s : Sl} (hs : sl D n = some s) : ∃ i, atI D.S n = some i ∧ D.S[i]? = some s ∧ setPar D n p = setS D i { s with parent := p } := by
  obtain ⟨i, ha, hi⟩ := sl_some hs
  refine ⟨i, ha, hi, ?_⟩
  simp only [setPar, ha, hi, setS]

theorem at_same {D : Dc} {n x i : Nat} (ha : atI D.S n = some i) (hx : atI D.S x = some i) : x = n := by
  obtain ⟨s, h1, _, _, _, _, e1⟩ := atI_some ha
  obtain ⟨s', h2, _, _, _, _, e2⟩ := atI_some hx
  rw [h1] at h2
  cases h2
  rw [e1, e2]

theorem sl_setPar {D : Dc} {n p : Nat} {s : Sl} (hs : sl D n = some s) (x : Nat) : sl (setPar D n p) x = if x = n then some { s with parent := p } else sl D x := by
  obtain ⟨i, ha, hi, e⟩ := setPar_of (p := p) hs
  rw [e, sl_setS (s' := { s with parent := p }) hi rfl rfl]
  by_cases hx : x = n
  · subst hx
    rw [if_pos ha, if_pos rfl]
  · rw [if_neg (fun h => hx (at_same ha h)), if_neg hx]

theorem lst_setPar {D : Dc} {n p : Nat} {s : Sl} (hs : sl D n = some s) (q : Nat) : lst (setPar D n p) q = lst D q := by
  obtain ⟨i, ha, hi, e⟩ := setPar_of (p := p) hs
  unfold lst
  by_cases h0 : q = 0
  · rw [if_pos h0, if_pos h0, e]
    rfl
  · rw [if_neg h0, if_neg h0, sl_setPar hs]
    by_cases hq : q = n
    · subst hq
      rw [if_pos rfl, hs]
    · rw [if_neg hq]

/-- The cut list. -/
theorem cut_facts {l : List Nat} {n k : Nat} (hnod : l.Nodup) (hkx : l[k]? = some n) :
    (∀ x, x ∈ l.take k ++ l.drop (k + 1) ↔ x ∈ l ∧ x ≠ n) ∧ (l.take k ++ l.drop (k + 1)).Nodup := by
  have hsl : List.Sublist (l.take k ++ l.drop (k + 1)) l := by
    have h1 : List.Sublist (l.drop (k + 1)) (l.drop k) := by
      rw [← List.drop_drop]
      exact List.drop_sublist 1 _
    have h2 := List.Sublist.append (List.Sublist.refl (l.take k)) h1
    rwa [List.take_append_drop] at h2
  refine ⟨fun x => ⟨fun hx => ⟨hsl.subset hx, ?_⟩, fun hx => mem_cut hkx hx.1 hx.2⟩, List.Sublist.nodup hsl hnod⟩
  rintro rfl
  rw [List.mem_append] at hx
  rcases hx with hx | hx
  · exact not_mem_take hnod hkx hx
  · obtain ⟨j, hj⟩ := List.getElem?_of_mem hx
    rw [List.getElem?_drop] at hj
    have := (List.getElem?_inj (List.getElem?_eq_some_iff.1 hj).1 hnod).1 (hj.trans hkx.symm)
    omega

theorem ins_facts {l : List Nat} {n k : Nat} (hnod : l.Nodup) (hn : n ∉ l) : (∀ x, x ∈ ins l k n ↔ x = n ∨ x ∈ l) ∧ (ins l k n).Nodup := by
  have hp : (ins l k n).Perm (n :: l) := by
    unfold ins
    have h1 : (l.take k ++ [n] ++ l.drop k).Perm ([n] ++ l.take k ++ l.drop k) := List.Perm.append_right _ List.perm_append_comm
    have h2 : [n] ++ l.take k ++ l.drop k = n :: l := by simp
    rw [h2] at h1
    exact h1
  refine ⟨fun x => by rw [hp.mem_iff, List.mem_cons], ?_⟩
  rw [hp.nodup_iff, List.nodup_cons]
  exact ⟨hn, hnod⟩

/-- How deep what lies within a node lies under it. -/
theorem within_hgt {D : Dc} (hw : WF D) {lv : Nat → Nat} (hl : Lev D lv) {n : Nat} {s : Sl} (hs : sl D n = some s) : ∀ (m x : Nat) (t : Sl), sl D x = some t → lv x ≤ m → n ∈ ups D x → ∀ k, k = lv x - lv n → k + hgt D x ≤ hgt D n
  | 0, x, t, hx, hm, hn, k, hk => by
    rw [ups_step hl hx] at hn
    rcases List.mem_cons.1 hn with e | hn
    · subst e
      omega
    · have h1 := dep_par hl hx
      rcases h1.2 with e | ⟨q, hq⟩
      · rw [e, ups_zero] at hn; cases hn
      · have := (hl x t hx).2
        rcases this with h | ⟨q', hq', h⟩
        · rw [h.1, sl_zero] at hq; cases hq
        · omega
  | m + 1, x, t, hx, hm, hn, k, hk => by
    have hnx := hn
    rw [ups_step hl hx] at hn
    rcases List.mem_cons.1 hn with e | hn
    · subst e
      omega
    · have h1 := dep_par hl hx
      rcases h1.2 with e | ⟨q, hq⟩
      · rw [e, ups_zero] at hn; cases hn
      · have hlv : lv x = lv t.parent + 1 := by
          rcases (hl x t hx).2 with h | ⟨q', hq', h⟩
          · rw [h.1, sl_zero] at hq; cases hq
          · exact h
        have hge := (ups_one hl (lv t.parent) t.parent q hq (Nat.le_refl _)).1 n hn
        have ih := within_hgt hw hl hs m t.parent q hq (by omega) hn (lv t.parent - lv n) rfl
        have hst := hgt_step hw hq
        have hmem : x ∈ lst D t.parent := hw.up x t hx
        have hmx : hgt D x ≤ ((lst D t.parent).map (hgt D)).foldl max 0 := (foldl_max_ge _ 0).2 _ (List.mem_map.2 ⟨x, hmem, rfl⟩)
        omega

theorem hgt_pos {D : Dc} (hw : WF D) {x : Nat} {t : Sl} (hx : sl D x = some t) : 1 ≤ hgt D x := by
  rw [hgt_step hw hx]
  omega

theorem slots_setPar {D : Dc} {n p : Nat} {s : Sl} (hs : sl D n = some s) : (setPar D n p).S.length = D.S.length ∧ ∀ (j : Nat) (t : Sl), (setPar D n p).S[j]? = some t → ∃ t1, D.S[j]? = some t1 ∧ (t = t1 ∨ (t1.live = true ∧ t = { t1 with parent := p })) := by
  obtain ⟨i, ha, hi, e⟩ := setPar_of (p := p) hs
  rw [e]
  refine ⟨by simp [setS], fun j t ht => ?_⟩
  have ht' : (D.S.set i { s with parent := p })[j]? = some t := ht
  by_cases e : i = j
  · subst e
    rw [List.getElem?_set_self (List.getElem?_eq_some_iff.1 hi).1] at ht'
    cases ht'
    obtain ⟨_, _, _, hlv, _⟩ := sl_live hs
    exact ⟨s, hi, .inr ⟨hlv, rfl⟩⟩
  · rw [List.getElem?_set_ne e] at ht'
    exact ⟨t, ht', .inl rfl⟩

theorem WF.put {D : Dc} (hw : WF D) {n p k : Nat} {s : Sl} (hs : sl D n = some s) (hp : p = 0 ∨ ∃ q, sl D p = some q) (hup : n ∉ ups D p) (hkd : ∀ q, sl D p = some q → q.kind ≠ 2) (hht : (ups D p).length + hgt D n ≤ 64) :
    WF (setPar (setL (outD D n s) p (ins (lst (outD D n s) p) k n)) n p) := by
  obtain ⟨lv, hl⟩ := hw.lev
  obtain ⟨kk, hk, hkx, hkl⟩ := idxH_mem (hw.up n s hs)
  have hsp := (dep_par hl hs).2
  obtain ⟨hcut, hcnd⟩ := cut_facts (hw.nodup s.parent) hkx
  have hE : outD D n s = setL D s.parent ((lst D s.parent).take kk ++ (lst D s.parent).drop (kk + 1)) := by
    unfold outD
    rw [hk, Int.toNat_natCast]
  rw [hE]
  generalize hl' : (lst D s.parent).take kk ++ (lst D s.parent).drop (kk + 1) = l' at *
  have hlE : ∀ q, lst (setL D s.parent l') q = if q = s.parent then l' else lst D q := fun q => by
    by_cases e : q = s.parent
    · rw [if_pos e, e, lst_setL_eq hsp]
    · rw [if_neg e, lst_setL_ne e]
  have hspl : s.parent ≠ 0 → ∀ t1, sl D s.parent = some t1 → t1.kids ≠ [] := fun h0 t1 ht1 he => by
    have := hw.up n s hs
    rw [lst, if_neg h0, ht1] at this
    simp only [he] at this
    simp at this
  obtain ⟨sE, hsE, hsEp⟩ := sl_setL_into (p := s.parent) (l' := l') hs
  have hpE : p = 0 ∨ ∃ q, sl (setL D s.parent l') p = some q := hp.imp id (fun ⟨q, hq⟩ => by obtain ⟨q', h1, _⟩ := sl_setL_into (p := s.parent) (l' := l') hq; exact ⟨q', h1⟩)
  have hnE : n ∉ lst (setL D s.parent l') p := fun hm => by
    rw [hlE] at hm
    by_cases e : p = s.parent
    · rw [if_pos e] at hm
      exact ((hcut n).1 hm).2 rfl
    · rw [if_neg e] at hm
      obtain ⟨t, h1, h2⟩ := hw.down p hp n hm
      rw [hs] at h1
      cases h1
      exact e h2.symm
  have hndE : (lst (setL D s.parent l') p).Nodup := by
    rw [hlE]
    split
    · exact hcnd
    · exact hw.nodup p
  obtain ⟨hins, hind⟩ := ins_facts (k := k) hndE hnE
  generalize hl2 : ins (lst (setL D s.parent l') p) k n = l2 at *
  obtain ⟨s2, hs2, hs2p⟩ := sl_setL_into (p := p) (l' := l2) hsE
  have hlF : ∀ q, lst (setPar (setL (setL D s.parent l') p l2) n p) q = if q = p then l2 else lst (setL D s.parent l') q := fun q => by
    rw [lst_setPar hs2]
    by_cases e : q = p
    · rw [if_pos e, e, lst_setL_eq hpE]
    · rw [if_neg e, lst_setL_ne e]
  have hfrom : ∀ x t, sl (setPar (setL (setL D s.parent l') p l2) n p) x = some t → ∃ t0, sl D x = some t0 ∧ t.parent = if x = n then p else t0.parent := fun x t ht => by
    rw [sl_setPar hs2] at ht
    by_cases e : x = n
    · rw [if_pos e] at ht
      cases ht
      exact ⟨s, by rw [e]; exact hs, by rw [if_pos e]⟩
    · rw [if_neg e] at ht
      obtain ⟨t1, h1, h2⟩ := sl_setL_from ht
      obtain ⟨t0, h3, h4⟩ := sl_setL_from h1
      exact ⟨t0, h3, by rw [if_neg e, h2, h4]⟩
  have hinto : ∀ x t0, sl D x = some t0 → ∃ t, sl (setPar (setL (setL D s.parent l') p l2) n p) x = some t ∧ t.parent = if x = n then p else t0.parent := fun x t0 ht => by
    rw [sl_setPar hs2]
    by_cases e : x = n
    · rw [if_pos e, if_pos e]
      exact ⟨_, rfl, rfl⟩
    · rw [if_neg e, if_neg e]
      obtain ⟨t1, h1, h2⟩ := sl_setL_into (p := s.parent) (l' := l') ht
      obtain ⟨t2, h3, h4⟩ := sl_setL_into (p := p) (l' := l2) h1
      exact ⟨t2, h3, by rw [h4, h2]⟩
  obtain ⟨c1, c2⟩ := slots_setPar (p := p) hs2
  obtain ⟨d1, d2⟩ := slots_setL (D := setL D s.parent l') (p := p) (l' := l2)
  obtain ⟨f1, f2⟩ := slots_setL (D := D) (p := s.parent) (l' := l')
  have hS : ∀ (j : Nat) (t : Sl), (setPar (setL (setL D s.parent l') p l2) n p).S[j]? = some t → ∃ t1, D.S[j]? = some t1 ∧ t.gen = t1.gen ∧ t.live = t1.live ∧ t.kind = t1.kind ∧ t.name = t1.name ∧ t.attrs = t1.attrs ∧ t.text = t1.text ∧ (t = t1 ∨ t1.live = true) ∧ (t.kids = t1.kids ∨ t1.kind ≠ 2) := fun j t ht => by
    obtain ⟨t3, g1, g2⟩ := c2 j t ht
    obtain ⟨t2, k1, k2⟩ := d2 j t3 g1
    obtain ⟨t1, m1, m2⟩ := f2 j t2 k1
    have hA : t2.gen = t1.gen ∧ t2.live = t1.live ∧ t2.kind = t1.kind ∧ t2.name = t1.name ∧ t2.attrs = t1.attrs ∧ t2.text = t1.text ∧ (t2 = t1 ∨ t1.live = true) ∧ (t2.kids = t1.kids ∨ t1.kind ≠ 2) := by
      rcases m2 with rfl | ⟨e1, e0, rfl⟩
      · exact ⟨rfl, rfl, rfl, rfl, rfl, rfl, .inl rfl, .inl rfl⟩
      · obtain ⟨_, _, h3, h4, _⟩ := sl_live e1
        refine ⟨rfl, rfl, rfl, rfl, rfl, rfl, .inr h4, .inr (fun h2 => ?_)⟩
        exact hspl e0 t1 e1 (((hw.used j t1 m1 h4).1 h2).1)
    have hB : t3.gen = t2.gen ∧ t3.live = t2.live ∧ t3.kind = t2.kind ∧ t3.name = t2.name ∧ t3.attrs = t2.attrs ∧ t3.text = t2.text ∧ (t3 = t2 ∨ t2.live = true) ∧ (t3.kids = t2.kids ∨ t2.kind ≠ 2) := by
      rcases k2 with rfl | ⟨e1, e0, rfl⟩
      · exact ⟨rfl, rfl, rfl, rfl, rfl, rfl, .inl rfl, .inl rfl⟩
      · obtain ⟨_, _, _, h4, _⟩ := sl_live e1
        refine ⟨rfl, rfl, rfl, rfl, rfl, rfl, .inr h4, .inr (fun h2 => ?_)⟩
        obtain ⟨q, hq⟩ := hp.resolve_left e0
        by_cases ep : p = s.parent
        · rw [← ep, sl_setL_eq hq] at e1
          cases e1
          exact hkd q hq h2
        · rw [sl_setL_ne ep, hq] at e1
          cases e1
          exact hkd t2 hq h2
    obtain ⟨a1, a2, a3, a4, a5, a6, a7, a8⟩ := hA
    obtain ⟨b1, b2, b3, b4, b5, b6, b7, b8⟩ := hB
    have hC : t.gen = t3.gen ∧ t.live = t3.live ∧ t.kind = t3.kind ∧ t.name = t3.name ∧ t.attrs = t3.attrs ∧ t.text = t3.text ∧ (t = t3 ∨ t3.live = true) ∧ t.kids = t3.kids := by
      rcases g2 with rfl | ⟨h1, rfl⟩
      · exact ⟨rfl, rfl, rfl, rfl, rfl, rfl, .inl rfl, rfl⟩
      · exact ⟨rfl, rfl, rfl, rfl, rfl, rfl, .inr h1, rfl⟩
    obtain ⟨q1, q2, q3, q4, q5, q6, q7, q8⟩ := hC
    refine ⟨t1, m1, q1.trans (b1.trans a1), q2.trans (b2.trans a2), q3.trans (b3.trans a3), q4.trans (b4.trans a4), q5.trans (b5.trans a5), q6.trans (b6.trans a6), ?_, ?_⟩
    · rcases q7 with rfl | h
      · rcases b7 with rfl | h
        · exact a7
        · exact .inr (by rw [← a2]; exact h)
      · exact .inr (by rw [← a2, ← b2]; exact h)
    · rcases b8 with h | h
      · rcases a8 with h' | h'
        · exact .inl (q8.trans (h.trans h'))
        · exact .inr h'
      · exact .inr (by rw [← a3]; exact h)
  have hdp : (ups D p).length = dep lv p := ups_length hl hp
  have hge : ∀ x t, sl D x = some t → n ∈ ups D x → lv n ≤ lv x := fun x t hx hn => (ups_one hl (lv x) x t hx (Nat.le_refl _)).1 n hn
  have hself : n ∈ ups D n := by rw [ups_step hl hs]; simp
  refine ⟨⟨by rw [c1, d1, f1]; exact hw.fits.len, fun j t ht => ?_⟩, fun j t ht => ?_, fun j t ht hd => ?_, fun j t ht hd => ?_, fun j t ht hd => ?_, ⟨fun x => if n ∈ ups D x then lv x - lv n + dep lv p else lv x, fun x t ht => ?_⟩, fun x t ht => ?_, fun q hq x hx => ?_, fun q => ?_⟩
  · obtain ⟨t1, h1, h2, _⟩ := hS j t ht
    rw [h2]; exact hw.fits.gen j t1 h1
  · obtain ⟨t1, h1, h2, _⟩ := hS j t ht
    rw [h2]; exact hw.gen1 j t1 h1
  · obtain ⟨t1, h1, h2, h3, _, _, _, _, h8, _⟩ := hS j t ht
    rcases h8 with rfl | h8
    · exact hw.dead j t h1 hd
    · rw [h3, h8] at hd; cases hd
  · obtain ⟨t1, h1, h2, h3, h4, h5, h6, h7, _, _⟩ := hS j t ht
    have := hw.own j t1 h1 (by rw [← h3]; exact hd)
    have e : ndOf t = ndOf t1 := by simp [ndOf, h4, h5, h6, h7]
    rw [e]; exact this
  · obtain ⟨t1, h1, h2, h3, h4, h5, h6, h7, _, h9⟩ := hS j t ht
    obtain ⟨u1, u2⟩ := hw.used j t1 h1 (by rw [← h3]; exact hd)
    refine ⟨fun h => ?_, fun h => by rw [h7]; exact u2 (by rw [← h4]; exact h)⟩
    rw [h4] at h
    obtain ⟨v1, v2, v3⟩ := u1 h
    rcases h9 with h9 | h9
    · exact ⟨by rw [h9]; exact v1, by rw [h5]; exact v2, by rw [h6]; exact v3⟩
    · exact absurd h h9
  · obtain ⟨t0, h1, h2⟩ := hfrom x t ht
    by_cases hxn : x = n
    · subst hxn
      rw [if_pos rfl] at h2
      rw [hs] at h1
      cases h1
      simp only [if_pos hself, Nat.sub_self, Nat.zero_add]
      have hb := hgt_pos hw hs
      refine ⟨by omega, ?_⟩
      rw [h2]
      rcases hp with rfl | ⟨q, hq⟩
      · exact .inl ⟨rfl, rfl⟩
      · right
        obtain ⟨q', e1, _⟩ := hinto p q hq
        refine ⟨q', e1, ?_⟩
        rw [if_neg hup]
        have h0 : p ≠ 0 := fun e => by rw [e, sl_zero] at hq; cases hq
        simp [dep, h0]
    · rw [if_neg hxn] at h2
      obtain ⟨g1, g2⟩ := hl x t0 h1
      by_cases hin : n ∈ ups D x
      · simp only [if_pos hin]
        have hin2 := hin
        rw [ups_step hl h1] at hin2
        have hin3 : n ∈ ups D t0.parent := by
          rcases List.mem_cons.1 hin2 with e | h
          · exact absurd e.symm hxn
          · exact h
        have h0 : t0.parent ≠ 0 := fun e => by rw [e, ups_zero] at hin3; cases hin3
        rcases g2 with g2 | ⟨q, hq, g3⟩
        · exact absurd g2.1 h0
        · have hq1 := hge t0.parent q hq hin3
          have hw1 := within_hgt hw hl hs (lv x) x t0 h1 (Nat.le_refl _) hin _ rfl
          have hp1 := hgt_pos hw h1
          refine ⟨by omega, .inr ?_⟩
          obtain ⟨q', e1, _⟩ := hinto t0.parent q hq
          rw [h2]
          refine ⟨q', e1, ?_⟩
          rw [if_pos hin3]
          omega
      · simp only [if_neg hin]
        refine ⟨g1, ?_⟩
        rw [h2]
        rcases g2 with g2 | ⟨q, hq, g3⟩
        · exact .inl g2
        · right
          obtain ⟨q', e1, _⟩ := hinto t0.parent q hq
          refine ⟨q', e1, ?_⟩
          have hnin : n ∉ ups D t0.parent := fun h => hin (by rw [ups_step hl h1]; exact List.mem_cons_of_mem _ h)
          rw [if_neg hnin]
          exact g3
  · obtain ⟨t0, h1, h2⟩ := hfrom x t ht
    rw [h2]
    by_cases hxn : x = n
    · rw [if_pos hxn, hlF, if_pos rfl, hins]
      exact .inl hxn
    · rw [if_neg hxn, hlF]
      have hu := hw.up x t0 h1
      have hxE : x ∈ lst (setL D s.parent l') t0.parent := by
        rw [hlE]
        by_cases e : t0.parent = s.parent
        · rw [if_pos e, hcut]
          exact ⟨by rw [← e]; exact hu, hxn⟩
        · rw [if_neg e]; exact hu
      by_cases e : t0.parent = p
      · rw [if_pos e, hins]
        exact .inr (by rw [← e]; exact hxE)
      · rw [if_neg e]; exact hxE
  · have hq0 : q = 0 ∨ ∃ t, sl D q = some t := hq.imp id (fun ⟨t, ht⟩ => by obtain ⟨t0, h1, _⟩ := hfrom q t ht; exact ⟨t0, h1⟩)
    have old : ∀ q, (q = 0 ∨ ∃ t, sl D q = some t) → x ∈ lst (setL D s.parent l') q → x ≠ n → ∃ t, sl (setPar (setL (setL D s.parent l') p l2) n p) x = some t ∧ t.parent = q := fun q hq0 hxE hxn => by
      have hxD : x ∈ lst D q := by
        rw [hlE] at hxE
        by_cases e : q = s.parent
        · rw [if_pos e] at hxE
          rw [e]; exact ((hcut x).1 hxE).1
        · rw [if_neg e] at hxE; exact hxE
      obtain ⟨t0, h1, h2⟩ := hw.down q hq0 x hxD
      obtain ⟨t, h3, h4⟩ := hinto x t0 h1
      exact ⟨t, h3, by rw [h4, if_neg hxn, h2]⟩
    rw [hlF] at hx
    by_cases e : q = p
    · rw [if_pos e, hins] at hx
      rcases hx with rfl | hx
      · obtain ⟨t, h3, h4⟩ := hinto x s hs
        exact ⟨t, h3, by rw [h4, if_pos rfl, e]⟩
      · exact old q hq0 (by rw [e]; exact hx) (fun h => hnE (h ▸ hx))
    · rw [if_neg e] at hx
      refine old q hq0 hx (fun h => ?_)
      subst h
      rw [hlE] at hx
      by_cases e2 : q = s.parent
      · rw [if_pos e2] at hx
        exact ((hcut x).1 hx).2 rfl
      · rw [if_neg e2] at hx
        obtain ⟨t0, h1, h2⟩ := hw.down q hq0 x hx
        rw [hs] at h1
        cases h1
        exact e2 h2.symm
  · rw [hlF]
    by_cases e : q = p
    · rw [if_pos e]; exact hind
    · rw [if_neg e, hlE]
      split
      · exact hcnd
      · exact hw.nodup q

/-- What is known of the parent at a place that can be. -/
theorem place_facts {D : Dc} (hw : WF D) {wh : Int} {a : Nat} (he : (placeE D wh a).2 = 0) (hpl : isPlaceB wh a = true) :
    (∀ q, sl D (placeE D wh a).1 = some q → q.kind ≠ 2) ∧ (∀ n, n ∉ ups D a → n ∉ ups D (placeE D wh a).1) ∧ (placeE D wh a).1 = arD D wh a ∧ (wh = 1 ∨ wh = 2 ∨ ((wh = 3 ∨ wh = 4) ∧ a ∈ lst D (placeE D wh a).1)) := by
  obtain ⟨lv, hl⟩ := hw.lev
  have hpl' : wh = 1 ∨ wh = 2 ∨ ((wh = 3 ∨ wh = 4) ∧ a ≠ 0) := by simpa [isPlaceB] using hpl
  by_cases h0 : a = 0
  · subst h0
    have e : placeE D wh 0 = (0, 0) := by simp [placeE]
    rw [e]
    refine ⟨(by intro q hq; rw [sl_zero] at hq; cases hq), fun n hn => hn, ?_, ?_⟩
    · unfold arD
      split
      · rename_i h
        rcases hpl' with h' | h' | h'
        · omega
        · omega
        · exact absurd rfl h'.2
      · rfl
    · rcases hpl' with h' | h' | h'
      · exact .inl h'
      · exact .inr (.inl h')
      · exact absurd rfl h'.2
  · cases hs : sl D a with
    | none =>
      have e : placeE D wh a = (0, 8) := by simp [placeE, h0, hs]
      rw [e] at he
      cases he
    | some s =>
      by_cases hwh : wh ≤ 2
      · by_cases hk : s.kind = 2
        · have e : placeE D wh a = (0, 31) := by simp [placeE, h0, hs, hwh, hk]
          rw [e] at he
          cases he
        · have e : placeE D wh a = (a, 0) := by simp [placeE, h0, hs, hwh, hk]
          rw [e]
          refine ⟨fun q hq => by rw [hs] at hq; cases hq; exact hk, fun n hn => hn, ?_, ?_⟩
          · unfold arD
            rw [if_neg (by omega)]
          · rcases hpl' with h' | h' | h'
            · exact .inl h'
            · exact .inr (.inl h')
            · omega
      · have e : placeE D wh a = (s.parent, 0) := by simp [placeE, h0, hs, hwh]
        rw [e]
        have hu := hw.up a s hs
        refine ⟨fun q hq hk => ?_, fun n hn h => hn ?_, ?_, ?_⟩
        · obtain ⟨i, _, hi, hlv, _⟩ := sl_live hq
          have := ((hw.used i q hi hlv).1 hk).1
          have hp0 : s.parent ≠ 0 := fun e => by rw [e, sl_zero] at hq; cases hq
          rw [lst, if_neg hp0, hq] at hu
          simp only [this] at hu
          cases hu
        · rw [ups_step hl hs]
          exact List.mem_cons_of_mem _ h
        · unfold arD
          rw [if_pos (by omega)]
          simp [par, hs]
        · rcases hpl' with h' | h' | h'
          · omega
          · omega
          · exact .inr (.inr ⟨h'.1, hu⟩)

end Go.Proofs.Ytjkgjckkglfokab.Gr

/- Move of the program. -/
namespace Go.Proofs.Ytjkgjckkglfokab.Gr
open Go.RowKit
set_option linter.unusedVariables false
set_option linter.unusedSimpArgs false

theorem link_any (w : World) (ro : Nat → Nat) (db : Nat) (D : Dc) (n a p : Nat) (wh : Int) (hd : PDoc w ro db D) (hf : Fits D) (hal : a < 18446744073709551616) (hpl : p < 18446744073709551616) (hpp : p = 0 ∨ ∃ s, sl D p = some s) (hll : (lst D p).length ≤ 4096) (har : arD D wh a = p)
    (hwh : wh = 1 ∨ wh = 2 ∨ ((wh = 3 ∨ wh = 4) ∧ a ∈ lst D p ∧ ∃ s, sl D a = some s)) :
    Calls Try.prog 42 #[.pointer (some ⟨db, 0, none⟩), .int .u64 (n : Int), .int .i64 wh, .int .u64 (a : Int)] w (LinkP w ro db (setL D p (ins (lst D p) (whereN (lst D p) wh a) n))) := by
  rcases hwh with rfl | rfl | ⟨rfl | rfl, hm, hs⟩
  · exact link_first w ro db D n a p hd hf hal hpl hpp hll har
  · exact link_last w ro db D n a p hd hf hal hpl hpp hll har
  · exact link_before w ro db D n a p hd hf hal hpl hpp hll har hm hs
  · exact link_after w ro db D n a p hd hf hal hpl hpp hll har hm hs

theorem Fits.setS {D : Dc} (hf : Fits D) {i : Nat} {s s' : Sl} (hs : D.S[i]? = some s) (hg : s'.gen = s.gen) : Fits (setS D i s') := by
  refine ⟨by simp [Gr.setS]; exact hf.len, fun j t ht => ?_⟩
  have ht' : (D.S.set i s')[j]? = some t := ht
  by_cases e : i = j
  · subst e
    rw [List.getElem?_set_self (List.getElem?_eq_some_iff.1 hs).1] at ht'
    cases ht'
    rw [hg]
    exact hf.gen i s hs
  · rw [List.getElem?_set_ne e] at ht'
    exact hf.gen j t ht'

/-- A handle's parent set, in memory. -/
theorem PDoc.parent {w : World} {ro : Nat → Nat} {db : Nat} {E : Dc} (hd : PDoc w ro db E) {n p i : Nat} {s : Sl} (hs : sl E n = some s) (ha : atI E.S n = some i) (hi : E.S[i]? = some s) :
    ∃ g scap, w.cell? ⟨db, 0, none⟩ = some (.slice (some ⟨g, 0, none⟩) E.S.length scap) ∧ ro g ≠ 0 ∧ g < w.heap.size ∧ ∀ W, Below w.heap.size w W → (∃ u, W.cell? ⟨g, i * 8 + 6, none⟩ = some (.int .u64 u)) ∧ W.frozen? ⟨g, i * 8 + 6, none⟩ = false ∧ PDoc (W.setCell ⟨g, i * 8 + 6, none⟩ (.int .u64 (p : Int))) ro db (setPar E n p) := by
  obtain ⟨sa, scap, ra, rcap, L, h⟩ := hd
  obtain ⟨g, q, rfl, hg2, hq, hcap, hhd, hcl⟩ := h.slot hi
  refine ⟨g, scap, hhd, by omega, h.lt g (by omega), fun W hW => ?_⟩
  have h' := h.below hW
  obtain ⟨g', q', e, _, hq', _, _, hcl'⟩ := h'.slot hi
  cases e
  obtain ⟨i', ha', hi', e⟩ := setPar_of (p := p) hs
  rw [ha] at ha'
  cases ha'
  refine ⟨⟨_, (hcl' 6 _ rfl).1⟩, (hcl' 6 _ rfl).2, ?_⟩
  rw [e]
  exact ⟨_, _, _, _, _, h'.store (s' := { s with parent := p }) hi hq' (by omega) rfl rfl rfl rfl⟩

/-- A document changed: only its own parts and new ones. -/
structure PE (w : World) (ro : Nat → Nat) (db : Nat) (D' : Dc) (w' : World) (ro' : Nat → Nat) : Prop where
  turn : Turn (fun b => ro b ≠ 0) w w'
  doc : PDoc w' ro' db D'
  from' : ∀ b, ro' b ≠ 0 → ro b ≠ 0 ∨ w.heap.size ≤ b

theorem PE.refl {w w' : World} {ro : Nat → Nat} {db : Nat} {D : Dc} (h : PDoc w ro db D) (hb : Below w.heap.size w w') : PE w ro db D w' ro := by
  obtain ⟨sa, scap, ra, rcap, L, h⟩ := h
  exact ⟨(below_turn hb).mono (fun _ _ h => h.elim), ⟨sa, scap, ra, rcap, L, h.below hb⟩, fun b hb => .inl hb⟩
theorem PE.trans {w w1 w2 : World} {ro ro1 ro2 : Nat → Nat} {db : Nat} {D E : Dc} (h : PE w ro db D w1 ro1) (k : PE w1 ro1 db E w2 ro2) : PE w ro db E w2 ro2 := by
  refine ⟨⟨k.turn.os.trans h.turn.os, k.turn.tape.trans h.turn.tape, k.turn.output.trans h.turn.output, Nat.le_trans h.turn.size k.turn.size, fun b hb hn => ?_⟩, k.doc, fun b hb => ?_⟩
  · rw [k.turn.block b (Nat.lt_of_lt_of_le hb h.turn.size) (fun h1 => ?_), h.turn.block b hb hn]
    rcases h.from' b h1 with h2 | h2
    · exact hn h2
    · omega
  · rcases k.from' b hb with h1 | h1
    · exact h.from' b h1
    · exact .inr (Nat.le_trans h.turn.size h1)
theorem PE.below {w w1 w2 : World} {ro ro1 : Nat → Nat} {db : Nat} {D : Dc} (h : PE w ro db D w1 ro1) (hb : Below w1.heap.size w1 w2) : PE w ro db D w2 ro1 := h.trans (PE.refl h.doc hb)
theorem PE.cell {w w1 : World} {ro ro1 : Nat → Nat} {db : Nat} {D E : Dc} (h : PE w ro db D w1 ro1) {g o : Nat} {u : Value} (hg : ro1 g ≠ 0) (hd : PDoc (w1.setCell ⟨g, o, none⟩ u) ro1 db E) : PE w ro db E (w1.setCell ⟨g, o, none⟩ u) ro1 :=
  h.trans ⟨Turn.setCell (A := fun b => ro1 b ≠ 0) (Turn.refl _ _) (p := ⟨g, o, none⟩) hg _, hd, fun b hb => .inl hb⟩

end Go.Proofs.Ytjkgjckkglfokab.Gr

/- Delete of the program. -/
namespace Go.Proofs.Ytjkgjckkglfokab.Gr
open Go.RowKit
set_option linter.unusedVariables false
set_option linter.unusedSimpArgs false

/-- A document of the program's whose count of nodes is not right yet. -/
structure PdT (w : World) (ro : Nat → Nat) (db : Nat) (D : Dc) (z : Int) (sa : Option Addr) (scap : Nat) (ra : Option Addr) (rcap : Nat) (L : List (Value × Value)) : Prop where
  head : IsCells w db #[.slice sa D.S.length scap, .slice ra D.roots.length rcap, .int .i64 z]
  slots : w.ownsRow 0 79 8 (.slice sa D.S.length scap) D.S.length (rowOf D.S L)
  roots : w.ownsRow 0 51 1 (.slice ra D.roots.length rcap) D.roots.length (hvals D.roots)
  len : L.length = D.S.length
  vals : ∀ (i : Nat) (s : Sl) (p : Value × Value), D.S[i]? = some s → L[i]? = some p → w.ownsRow 0 90 2 p.1 s.attrs.length (attrCells s.attrs) ∧ w.ownsRow 0 51 1 p.2 s.kids.length (hvals s.kids)
  rdb : ro db = 1
  rs : ∀ b, (Value.slice sa D.S.length scap).ownBlock = some b → ro b = 2
  rr : ∀ b, (Value.slice ra D.roots.length rcap).ownBlock = some b → ro b = 3
  rat : ∀ (i : Nat) (p : Value × Value) (b : Nat), L[i]? = some p → p.1.ownBlock = some b → ro b = 2 * i + 4
  rk : ∀ (i : Nat) (p : Value × Value) (b : Nat), L[i]? = some p → p.2.ownBlock = some b → ro b = 2 * i + 5
  lt : ∀ b, ro b ≠ 0 → b < w.heap.size

section
variable {w w' : World} {ro : Nat → Nat} {db : Nat} {D : Dc} {z : Int} {sa : Option Addr} {scap : Nat} {ra : Option Addr} {rcap : Nat} {L : List (Value × Value)}

theorem PdS.toT (h : PdS w ro db D sa scap ra rcap L) : PdT w ro db D (cnt Sl.live D.S) sa scap ra rcap L := ⟨h.head, h.slots, h.roots, h.len, h.vals, h.rdb, h.rs, h.rr, h.rat, h.rk, h.lt⟩
theorem PdT.toS (h : PdT w ro db D z sa scap ra rcap L) (hz : z = (cnt Sl.live D.S : Int)) : PdS w ro db D sa scap ra rcap L := ⟨by rw [← hz]; exact h.head, h.slots, h.roots, h.len, h.vals, h.rdb, h.rs, h.rr, h.rat, h.rk, h.lt⟩

theorem PdT.of_blocks (h : PdT w ro db D z sa scap ra rcap L) (hb : ∀ b, ro b ≠ 0 → w'.heap[b]? = w.heap[b]?) (hs : w.heap.size ≤ w'.heap.size) : PdT w' ro db D z sa scap ra rcap L := by
  refine ⟨h.head.of_block (hb db (by rw [h.rdb]; omega)), own_of_block h.slots (fun k hk => hb k (by rw [h.rs k hk]; omega)), own_of_block h.roots (fun k hk => hb k (by rw [h.rr k hk]; omega)), h.len, fun i s p hs' hp => ?_, h.rdb, h.rs, h.rr, h.rat, h.rk, fun b hb' => Nat.lt_of_lt_of_le (h.lt b hb') hs⟩
  obtain ⟨h1, h2⟩ := h.vals i s p hs' hp
  exact ⟨own_of_block h1 (fun k hk => hb k (by rw [h.rat i p k hp hk]; omega)), own_of_block h2 (fun k hk => hb k (by rw [h.rk i p k hp hk]; omega))⟩
theorem PdT.below (h : PdT w ro db D z sa scap ra rcap L) (hb : Below w.heap.size w w') : PdT w' ro db D z sa scap ra rcap L :=
  h.of_blocks (fun b hb' => hb.block b (h.lt b hb')) hb.size

/-- The count set. -/
theorem PdT.count (h : PdT w ro db D z sa scap ra rcap L) (z' : Int) : PdT (w.setCell ⟨db, 2, none⟩ (.int .i64 z')) ro db D z' sa scap ra rcap L := by
  have hblk : ∀ b, ro b ≠ 1 → (w.setCell ⟨db, 2, none⟩ (.int .i64 z')).heap[b]? = w.heap[b]? := fun b hb => Below.heap_setCell _ _ _ _ (by show b ≠ db; rintro rfl; exact hb h.rdb)
  refine ⟨by have := h.head.set 2 (.int .i64 z'); simpa using this, own_of_block h.slots (fun k hk => hblk k (by rw [h.rs k hk]; omega)), own_of_block h.roots (fun k hk => hblk k (by rw [h.rr k hk]; omega)), h.len, fun i s p hs' hp => ?_, h.rdb, h.rs, h.rr, h.rat, h.rk, fun b hb' => by simpa [World.setCell] using h.lt b hb'⟩
  obtain ⟨h1, h2⟩ := h.vals i s p hs' hp
  exact ⟨own_of_block h1 (fun k hk => hblk k (by rw [h.rat i p k hp hk]; omega)), own_of_block h2 (fun k hk => hblk k (by rw [h.rk i p k hp hk]; omega))⟩

theorem PdT.slotVals (h : PdT w ro db D z sa scap ra rcap L) {i : Nat} {s : Sl} {p : Value × Value} (hs : D.S[i]? = some s) (hp : L[i]? = some p) : SlotVals w (fun b => ro b ≠ 0) s p := by
  obtain ⟨h1, h2⟩ := h.vals i s p hs hp
  obtain ⟨aa, ac, e1, l1, v1⟩ := attrs_row' (R := fun b => ro b ≠ 0) h1 (fun b hb => by rw [h.rat i p b hp hb]; omega)
  obtain ⟨ka, kc, e2, l2, v2⟩ := hands_row (R := fun b => ro b ≠ 0) h2 (fun b hb => by rw [h.rk i p b hp hb]; omega)
  exact ⟨aa, ac, ka, kc, by rw [← e1, ← e2], l1, l2, v1, v2⟩

theorem PdT.view (h : PdT w ro db D z sa scap ra rcap L) : View w (fun b => ro b ≠ 0) db D := by
  obtain ⟨h1, _, h3⟩ := slots_row (R := fun b => ro b ≠ 0) h.len h.slots (fun i s p hs hp => h.slotVals hs hp) (fun g e _ _ => by subst e; rw [h.rs g rfl]; omega)
  obtain ⟨a, cap, e, l, hr⟩ := hands_row (R := fun b => ro b ≠ 0) h.roots (fun b hb => by rw [h.rr b hb]; omega)
  simp only [Value.slice.injEq, true_and] at e
  obtain ⟨rfl, rfl⟩ := e
  exact ⟨by show ro db ≠ 0; rw [h.rdb]; omega, h.lt, ⟨sa, scap, by rw [h.head.cell]; rfl, h3, h1⟩, ⟨ra, rcap, by rw [h.head.cell]; rfl, l, hr⟩⟩

theorem PdT.slot (h : PdT w ro db D z sa scap ra rcap L) {i : Nat} {s : Sl} (hs : D.S[i]? = some s) :
    ∃ g p, sa = some ⟨g, 0, none⟩ ∧ ro g = 2 ∧ L[i]? = some p ∧ D.S.length ≤ scap ∧ w.cell? ⟨db, 0, none⟩ = some (.slice (some ⟨g, 0, none⟩) D.S.length scap) ∧ ∀ j u, (slotCells s p)[j]? = some u → w.cell? ⟨g, i * 8 + j, none⟩ = some u ∧ w.frozen? ⟨g, i * 8 + j, none⟩ = false := by
  have hi := (List.getElem?_eq_some_iff.1 hs).1
  obtain ⟨p, hp⟩ : ∃ p, L[i]? = some p := ⟨_, List.getElem?_eq_getElem (by rw [h.len]; exact hi)⟩
  obtain ⟨h1, h2, h3⟩ := row_cell h.slots
  obtain ⟨g, e, _, _, _⟩ := h3 (i * 8 + 0) _ (by rw [rowOf_get hs hp (by omega)]; rfl)
  subst e
  refine ⟨g, p, rfl, h.rs g rfl, hp, h1, by rw [h.head.cell]; rfl, fun j u hu => ?_⟩
  have hj8 : j < 8 := (List.getElem?_eq_some_iff.1 hu).1
  obtain ⟨g', e1, _, _, e2⟩ := h3 (i * 8 + j) u (by rw [rowOf_get hs hp hj8]; exact hu)
  cases e1
  exact ⟨e2, own_frozen h.slots _⟩
end

section
variable {w : World} {ro : Nat → Nat} {db : Nat} {D : Dc} {z : Int} {g scap : Nat} {ra : Option Addr} {rcap : Nat} {L : List (Value × Value)}

/-- One cell of one slot stored, whatever it is. -/
theorem PdT.cell (h : PdT w ro db D z (some ⟨g, 0, none⟩) scap ra rcap L) {i j : Nat} {s s' : Sl} {p p' : Value × Value} {u : Value} (hs : D.S[i]? = some s) (hp : L[i]? = some p) (hj : j < 8) (hc : slotCells s' p' = (slotCells s p).set j u)
    (hv : w.ownsRow 0 90 2 p'.1 s'.attrs.length (attrCells s'.attrs) ∧ w.ownsRow 0 51 1 p'.2 s'.kids.length (hvals s'.kids)) (hq1 : ∀ b, p'.1.ownBlock = some b → ro b = 2 * i + 4) (hq2 : ∀ b, p'.2.ownBlock = some b → ro b = 2 * i + 5) :
    PdT (w.setCell ⟨g, i * 8 + j, none⟩ u) ro db { D with S := D.S.set i s' } z (some ⟨g, 0, none⟩) scap ra rcap (L.set i p') := by
  have hg : ro g = 2 := h.rs g rfl
  have hi := (List.getElem?_eq_some_iff.1 hs).1
  have hblk : ∀ b, ro b ≠ 2 → (w.setCell ⟨g, i * 8 + j, none⟩ u).heap[b]? = w.heap[b]? := fun b hb => Below.heap_setCell _ _ _ _ (by show b ≠ g; rintro rfl; exact hb hg)
  refine ⟨?_, ?_, own_of_block h.roots (fun k hk => hblk k (by rw [h.rr k hk]; omega)), by simp [h.len], fun k x y hx hy => ?_, h.rdb, by simpa using h.rs, h.rr, fun k y b hy hb => ?_, fun k y b hy hb => ?_, fun b hb => by simpa [World.setCell] using h.lt b hb⟩
  · have := h.head.of_block (hblk db (by rw [h.rdb]; omega))
    simpa using this
  · have := own_set h.slots (i * 8 + j) u
    rw [← rowOf_set h.len hs hp hj hc] at this
    simpa using this
  · by_cases hk : k = i
    · subst hk
      rw [List.getElem?_set_self hi] at hx
      rw [List.getElem?_set_self (by rw [h.len]; exact hi)] at hy
      cases hx
      cases hy
      exact ⟨own_of_block hv.1 (fun b hb => hblk b (by rw [hq1 b hb]; omega)), own_of_block hv.2 (fun b hb => hblk b (by rw [hq2 b hb]; omega))⟩
    · rw [List.getElem?_set_ne (by omega)] at hx hy
      obtain ⟨v1, v2⟩ := h.vals k x y hx hy
      exact ⟨own_of_block v1 (fun b hb => hblk b (by rw [h.rat k y b hy hb]; omega)), own_of_block v2 (fun b hb => hblk b (by rw [h.rk k y b hy hb]; omega))⟩
  · by_cases hk : k = i
    · subst hk
      rw [List.getElem?_set_self (by rw [h.len]; exact hi)] at hy
      cases hy
      exact hq1 b hb
    · rw [List.getElem?_set_ne (by omega)] at hy
      exact h.rat k y b hy hb
  · by_cases hk : k = i
    · subst hk
      rw [List.getElem?_set_self (by rw [h.len]; exact hi)] at hy
      cases hy
      exact hq2 b hb
    · rw [List.getElem?_set_ne (by omega)] at hy
      exact h.rk k y b hy hb

theorem PdT.cell' {i : Nat} {s : Sl} {p : Value × Value} (h : PdT w ro db { D with S := D.S.set i s } z (some ⟨g, 0, none⟩) scap ra rcap (L.set i p)) {j : Nat} {s' : Sl} {p' : Value × Value} {u : Value} (hi : i < D.S.length) (hl : L.length = D.S.length) (hj : j < 8) (hc : slotCells s' p' = (slotCells s p).set j u)
    (hv : w.ownsRow 0 90 2 p'.1 s'.attrs.length (attrCells s'.attrs) ∧ w.ownsRow 0 51 1 p'.2 s'.kids.length (hvals s'.kids)) (hq1 : ∀ b, p'.1.ownBlock = some b → ro b = 2 * i + 4) (hq2 : ∀ b, p'.2.ownBlock = some b → ro b = 2 * i + 5) :
    PdT (w.setCell ⟨g, i * 8 + j, none⟩ u) ro db { D with S := D.S.set i s' } z (some ⟨g, 0, none⟩) scap ra rcap (L.set i p') := by
  have := h.cell (i := i) (s := s) (p := p) (List.getElem?_set_self hi) (List.getElem?_set_self (by omega)) hj hc hv hq1 hq2
  simpa only [List.set_set] using this

/-- Rows that lie elsewhere, behind a store into the slots. -/
theorem two_rows {i k : Nat} {p : Value × Value} {A : List (ByteArray × ByteArray)} {K : List Nat} (hg : ro g = 2) (h1 : w.ownsRow 0 90 2 p.1 A.length (attrCells A) ∧ w.ownsRow 0 51 1 p.2 K.length (hvals K)) (hq1 : ∀ b, p.1.ownBlock = some b → ro b = 2 * i + 4) (hq2 : ∀ b, p.2.ownBlock = some b → ro b = 2 * i + 5) (u : Value) :
    (w.setCell ⟨g, k, none⟩ u).ownsRow 0 90 2 p.1 A.length (attrCells A) ∧ (w.setCell ⟨g, k, none⟩ u).ownsRow 0 51 1 p.2 K.length (hvals K) :=
  ⟨own_of_block h1.1 (fun b hb => Below.heap_setCell _ _ _ _ (by show b ≠ g; rintro rfl; have := hq1 b hb; omega)), own_of_block h1.2 (fun b hb => Below.heap_setCell _ _ _ _ (by show b ≠ g; rintro rfl; have := hq2 b hb; omega))⟩

end

end Go.Proofs.Ytjkgjckkglfokab.Gr

/- Delete of the program, walked. -/
namespace Go.Proofs.Ytjkgjckkglfokab.Gr
open Go.RowKit
set_option linter.unusedVariables false
set_option linter.unusedSimpArgs false

end Go.Proofs.Ytjkgjckkglfokab.Gr

/- Attributes by their names: their order, and where one stands (findAttr). -/
namespace Go.Proofs.Ytjkgjckkglfokab.Gr
open Go.RowKit
set_option linter.unusedVariables false
set_option linter.unusedSimpArgs false

/-- One name is less than another. -/
def ltN (a b : ByteArray) : Prop := a.data.toList < b.data.toList
instance (a b : ByteArray) : Decidable (ltN a b) := by unfold ltN; infer_instance

end Go.Proofs.Ytjkgjckkglfokab.Gr

/- slices.Insert and slices.Delete of one element: a row of one's own, at attributes. -/
namespace Go.Proofs.Ytjkgjckkglfokab.Gr.A
open Go.RowKit
set_option linter.unusedVariables false
set_option linter.unusedSimpArgs false

theorem infoE : InfoOf Try.prog 90 (.agg #[.string ⟨#[]⟩, .string ⟨#[]⟩]) 2 32 := by unfold InfoOf; kernel_rfl
theorem sizeE : (Try.prog.info? 90).map (·.size) = some 2 := by kernel_rfl

/-- What an insertion leaves. -/
def InsP (w : World) (base : Nat) (v : Value) (n i : Nat) (xs vs : List Value) (e : Ending) (w' : World) : Prop :=
  ∃ v', e = .returned v' ∧ w'.ownsRow base 90 2 v' (n + 1) (xs.take (i * 2) ++ vs ++ xs.drop (i * 2)) ∧ w.grownBy w' v.ownBlock ∧ (v'.ownBlock = v.ownBlock ∨ v'.ownBlock = some w.heap.size)

end Go.Proofs.Ytjkgjckkglfokab.Gr.A

/- SetAttr and DropAttr of the program. -/
namespace Go.Proofs.Ytjkgjckkglfokab.Gr
open Go.RowKit
set_option linter.unusedVariables false
set_option linter.unusedSimpArgs false

/-- Where an element's attributes stand. -/
structure AttAt (w : World) (ro : Nat → Nat) (db : Nat) (D : Dc) (i : Nat) (s : Sl) (g scap : Nat) (aa : Option Addr) (ac : Nat) : Prop where
  hd : w.cell? ⟨db, 0, none⟩ = some (.slice (some ⟨g, 0, none⟩) D.S.length scap)
  cell : w.cell? ⟨g, i * 8 + 4, none⟩ = some (.slice aa s.attrs.length ac)
  fz : w.frozen? ⟨g, i * 8 + 4, none⟩ = false
  own : w.ownsRow 0 90 2 (.slice aa s.attrs.length ac) s.attrs.length (attrCells s.attrs)
  rog : ro g ≠ 0
  lt : g < w.heap.size
  ne : ∀ k, (Value.slice aa s.attrs.length ac).ownBlock = some k → k ≠ g ∧ ro k ≠ 0
  put : ∀ w' l' a' c', w.grownBy w' (Value.slice aa s.attrs.length ac).ownBlock → w'.ownsRow 0 90 2 (.slice a' l'.length c') l'.length (attrCells l') → (∀ k, (Value.slice a' l'.length c').ownBlock = some k → (Value.slice aa s.attrs.length ac).ownBlock = some k ∨ w.heap.size ≤ k) →
    ∃ ro', PE w ro db { D with S := D.S.set i { s with attrs := l' } } (w'.setCell ⟨g, i * 8 + 4, none⟩ (.slice a' l'.length c')) ro'
  inp : ∀ w' l', w.grownBy w' (Value.slice aa s.attrs.length ac).ownBlock → w'.ownsRow 0 90 2 (.slice aa s.attrs.length ac) l'.length (attrCells l') → PE w ro db { D with S := D.S.set i { s with attrs := l' } } w' ro

theorem AttAt.below {w W : World} {ro : Nat → Nat} {db : Nat} {D : Dc} {i : Nat} {s : Sl} {g scap : Nat} {aa : Option Addr} {ac : Nat} (h : AttAt w ro db D i s g scap aa ac) (hb : Below w.heap.size w W) :
    W.cell? ⟨g, i * 8 + 4, none⟩ = some (.slice aa s.attrs.length ac) ∧ W.frozen? ⟨g, i * 8 + 4, none⟩ = false ∧ W.ownsRow 0 90 2 (.slice aa s.attrs.length ac) s.attrs.length (attrCells s.attrs) :=
  ⟨(hb.cell (p := ⟨g, _, none⟩) h.lt).trans h.cell, (hb.frozen (p := ⟨g, _, none⟩) h.lt).trans h.fz, own_of_block h.own (fun k hk => hb.block k (own_block_lt h.own k hk).2)⟩

end Go.Proofs.Ytjkgjckkglfokab.Gr

/- SetAttr of the program. -/
namespace Go.Proofs.Ytjkgjckkglfokab.Gr
open Go.RowKit
set_option linter.unusedVariables false
set_option linter.unusedSimpArgs false

end Go.Proofs.Ytjkgjckkglfokab.Gr

/- What every document keeps, kept: SetAttr, DropAttr. -/
namespace Go.Proofs.Ytjkgjckkglfokab.Gr
open Go.RowKit
set_option linter.unusedVariables false
set_option linter.unusedSimpArgs false

end Go.Proofs.Ytjkgjckkglfokab.Gr

/- A tree's nodes made in a document, in plain. -/
namespace Go.Proofs.Ytjkgjckkglfokab.Gr
open Go.RowKit
set_option linter.unusedVariables false
set_option linter.unusedSimpArgs false

/-- The slot of a node that is made. -/
def mkS {α : Type} (gen : Nat) (t : Nd α) (p : Nat) (ks : List Nat) : Sl :=
  { gen := gen, live := true, kind := t.kind, name := if t.kind = 2 then ⟨#[]⟩ else t.name, attrs := if t.kind = 2 then [] else t.attrs, text := if t.kind = 2 then t.text else ⟨#[]⟩, parent := p, kids := ks }
def genAt (D : Dc) (i : Nat) : Nat := match D.S[i]? with | some s => s.gen | none => 0
/-- A slot's children set. -/
def setKI (D : Dc) (i : Nat) (l : List Nat) : Dc := match D.S[i]? with | some s => setS D i { s with kids := l } | none => D

def growK {α : Type} (f : α → Nat → Dc → Dc × Nat) (h : Nat) : List α → Dc → Dc × List Nat
  | [], D => (D, [])
  | k :: r, D => ((growK f h r (f k h D).1).1, (f k h D).2 :: (growK f h r (f k h D).1).2)
/-- The document with a node at the next free place. -/
def seed {α : Type} (D : Dc) (t : Nd α) (p : Nat) : Dc := setS (freeD D).2 (freeD D).1 (mkS (genAt (freeD D).2 (freeD D).1 + 1) t p [])
def seedH (D : Dc) : Nat := hnd (freeD D).1 (genAt (freeD D).2 (freeD D).1 + 1)
def growD : (n : Nat) → T n → Nat → Dc → Dc × Nat
  | 0, _, _, D => (D, 0)
  | n + 1, t, p, D => (setKI (growK (growD n) (seedH D) (kidsT t) (seed D t p)).1 (freeD D).1 (growK (growD n) (seedH D) (kidsT t) (seed D t p)).2, seedH D)

/-- What every document keeps of its slots alone. -/
structure Sane (D : Dc) : Prop where
  fits : Fits D
  gen1 : ∀ (i : Nat) (s : Sl), D.S[i]? = some s → 1 ≤ s.gen
  dead : ∀ (i : Nat) (s : Sl), D.S[i]? = some s → s.live = false → s = zeroSl s.gen
  own : ∀ (i : Nat) (s : Sl), D.S[i]? = some s → s.live = true → ownE (ndOf s) = 0
  used : ∀ (i : Nat) (s : Sl), D.S[i]? = some s → s.live = true → (s.kind = 2 → s.kids = [] ∧ s.name = ⟨#[]⟩ ∧ s.attrs = []) ∧ (s.kind = 1 → s.text = ⟨#[]⟩)
theorem WF.sane {D : Dc} (h : WF D) : Sane D := ⟨h.fits, h.gen1, h.dead, h.own, h.used⟩

/-- Where the next node comes to lie. -/
theorem free_facts {D : Dc} (hs : Sane D) (hc : cnt takenB D.S + 1 ≤ 4096) :
    (freeD D).1 ≤ D.S.length ∧ (freeD D).2.roots = D.roots ∧ (freeD D).1 < (freeD D).2.S.length ∧ (freeD D).2.S.length ≤ 4096 ∧ D.S.length ≤ (freeD D).2.S.length ∧ genAt (freeD D).2 (freeD D).1 + 1 < 4294967296 ∧
    (∃ s0, (freeD D).2.S[(freeD D).1]? = some s0 ∧ s0.live = false ∧ s0.gen < 4294967295 ∧ s0.gen = genAt (freeD D).2 (freeD D).1) ∧ (∀ j, j ≠ (freeD D).1 → (freeD D).2.S[j]? = D.S[j]?) ∧ (∀ s, D.S[(freeD D).1]? = some s → s.live = false) := by
  unfold freeD
  cases hi : D.S.findIdx? freeB with
  | some i =>
    simp only
    rw [List.findIdx?_eq_some_iff_getElem] at hi
    obtain ⟨h1, h2, _⟩ := hi
    have hg : D.S[i]? = some D.S[i] := List.getElem?_eq_getElem h1
    have hb : D.S[i].live = false ∧ D.S[i].gen < 4294967295 := by
      unfold freeB at h2
      simpa using h2
    have hga : genAt D i = D.S[i].gen := by unfold genAt; rw [hg]
    refine ⟨by omega, trivial, h1, hs.fits.len, Nat.le_refl _, by rw [hga]; omega, ⟨D.S[i], hg, hb.1, hb.2, hga.symm⟩, fun _ _ => trivial, fun s h => ?_⟩
    rw [hg] at h
    cases h
    exact hb.1
  | none =>
    simp only
    rw [List.findIdx?_eq_none_iff] at hi
    have hall : cnt takenB D.S = D.S.length := by
      unfold cnt
      rw [List.filter_eq_self.2]
      intro s hm
      have := hi s hm
      obtain ⟨j, hj⟩ := List.getElem?_of_mem hm
      have hg := hs.fits.gen j s hj
      unfold freeB at this
      unfold takenB
      cases hl : s.live with
      | true => rfl
      | false =>
        rw [hl] at this
        simp only [Bool.not_false, Bool.true_and, decide_eq_false_iff_not] at this
        simp only [Bool.false_or, decide_eq_true_eq]
        omega
    have hg : (D.S ++ [zeroSl 0])[D.S.length]? = some (zeroSl 0) := by simp
    have hga : genAt { D with S := D.S ++ [zeroSl 0] } D.S.length = 0 := by unfold genAt; simp only [hg]; rfl
    refine ⟨Nat.le_refl _, trivial, by simp, by simp; omega, by simp, by rw [hga]; omega, ⟨zeroSl 0, hg, rfl, by simp [zeroSl], by rw [hga]; rfl⟩, fun j hj => ?_, fun s h => ?_⟩
    · by_cases hlt : j < D.S.length
      · exact List.getElem?_append_left hlt
      · rw [List.getElem?_eq_none (by simp; omega), List.getElem?_eq_none (by omega)]
    · rw [List.getElem?_eq_none (Nat.le_refl _)] at h
      cases h

theorem hnd_idx {i g : Nat} (hi : i < 4294967295) : (hnd i g) % 4294967296 = i + 1 ∧ (hnd i g) / 4294967296 = g := by
  unfold hnd
  omega

theorem sl_iff {D : Dc} {x : Nat} {s : Sl} : sl D x = some s ↔ x % 4294967296 ≠ 0 ∧ D.S[x % 4294967296 - 1]? = some s ∧ s.live = true ∧ s.gen = x / 4294967296 := by
  unfold sl atI
  by_cases h0 : x % 4294967296 = 0
  · simp [h0]
  · simp only [if_neg h0]
    cases h : D.S[x % 4294967296 - 1]? with
    | none => simp
    | some t =>
      simp only
      by_cases hc : t.live = true ∧ t.gen = x / 4294967296
      · rw [if_pos hc]
        simp only [Option.bind_some, h, Option.some.injEq]
        constructor
        · rintro rfl
          exact ⟨h0, rfl, hc.1, hc.2⟩
        · rintro ⟨_, e, _, _⟩
          exact e
      · rw [if_neg hc]
        simp only [Option.bind_none]
        constructor
        · intro e
          cases e
        · rintro ⟨_, e, h1, h2⟩
          cases e
          exact absurd ⟨h1, h2⟩ hc

theorem mkS_own {α : Type} {t : Nd α} {g p : Nat} {ks : List Nat} (h : ownE t = 0) : ownE (ndOf (mkS g t p ks)) = 0 ∧ (t.kind = 1 ∨ t.kind = 2) := by
  unfold ownE at h
  by_cases h1 : t.kind = 1
  · refine ⟨?_, .inl h1⟩
    rw [if_pos h1] at h
    unfold ownE
    have hk : (ndOf (mkS g t p ks)).kind = 1 := h1
    have h2 : ¬ t.kind = 2 := by omega
    rw [if_pos hk]
    show (if nameL (if t.kind = 2 then (⟨#[]⟩ : ByteArray) else t.name).data.toList then attrsE (if t.kind = 2 then [] else t.attrs) else 6) = 0
    rw [if_neg h2, if_neg h2]
    exact h
  · rw [if_neg h1] at h
    by_cases h2 : t.kind = 2
    · refine ⟨?_, .inr h2⟩
      rw [if_pos h2] at h
      unfold ownE
      have hk1 : ¬ (ndOf (mkS g t p ks)).kind = 1 := h1
      have hk2 : (ndOf (mkS g t p ks)).kind = 2 := h2
      rw [if_neg hk1, if_pos hk2]
      show (tans (if t.kind = 2 then t.text else (⟨#[]⟩ : ByteArray)).data.toList).2 = 0
      rw [if_pos h2]
      exact h
    · rw [if_neg h2] at h
      cases h

/-- One node made. -/
theorem seed_facts {α : Type} {D : Dc} (hs : Sane D) (hc : cnt takenB D.S + 1 ≤ 4096) (t : Nd α) (p : Nat) (ho : ownE t = 0) :
    Sane (seed D t p) ∧ (seed D t p).roots = D.roots ∧ cnt takenB (seed D t p).S = cnt takenB D.S + 1 ∧ cnt Sl.live (seed D t p).S = cnt Sl.live D.S + 1 ∧ sl D (seedH D) = none ∧
    atI (seed D t p).S (seedH D) = some (freeD D).1 ∧ (seed D t p).S[(freeD D).1]? = some (mkS (genAt (freeD D).2 (freeD D).1 + 1) t p []) ∧ (∀ y, y ≠ seedH D → sl (seed D t p) y = sl D y) ∧ seedH D ≠ 0 ∧ seedH D < 18446744073709551616 := by
  obtain ⟨f1, f2, f3, f4, f5, f6, ⟨s0, f7, f8, f9, f10⟩, f11, f12⟩ := free_facts hs hc
  have hget : (seed D t p).S[(freeD D).1]? = some (mkS (genAt (freeD D).2 (freeD D).1 + 1) t p []) := List.getElem?_set_self f3
  have hoth : ∀ j, j ≠ (freeD D).1 → (seed D t p).S[j]? = D.S[j]? := fun j hj => by
    show ((freeD D).2.S.set (freeD D).1 _)[j]? = _
    rw [List.getElem?_set_ne (Ne.symm hj), f11 j hj]
  obtain ⟨o1, o2⟩ := mkS_own (g := genAt (freeD D).2 (freeD D).1 + 1) (p := p) (ks := []) ho
  have hil : (freeD D).1 < 4294967295 := by omega
  obtain ⟨e1, e2⟩ := hnd_idx (i := (freeD D).1) (g := genAt (freeD D).2 (freeD D).1 + 1) hil
  have hcntD : ∀ f : Sl → Bool, f (zeroSl 0) = false → cnt f (freeD D).2.S = cnt f D.S := fun f hf => by
    unfold freeD
    cases hi : D.S.findIdx? freeB with
    | some i => rfl
    | none => simp [cnt, List.filter_append, hf]
  have hcset : ∀ f : Sl → Bool, f s0 = false → f (mkS (genAt (freeD D).2 (freeD D).1 + 1) t p []) = true → cnt f (seed D t p).S = cnt f (freeD D).2.S + 1 := fun f h1 h2 => by
    unfold cnt
    have hsp : (freeD D).2.S = (freeD D).2.S.take (freeD D).1 ++ s0 :: (freeD D).2.S.drop ((freeD D).1 + 1) := by
      rw [← (List.getElem?_eq_some_iff.1 f7).2, ← List.drop_eq_getElem_cons f3, List.take_append_drop]
    have hst : (seed D t p).S = (freeD D).2.S.take (freeD D).1 ++ mkS (genAt (freeD D).2 (freeD D).1 + 1) t p [] :: (freeD D).2.S.drop ((freeD D).1 + 1) := by
      show (freeD D).2.S.set (freeD D).1 _ = _
      rw [List.set_eq_take_append_cons_drop, if_pos f3]
    rw [hst]
    conv => rhs; rw [hsp]
    rw [List.filter_append, List.filter_append, List.filter_cons, List.filter_cons, if_pos h2, if_neg (by simp [h1])]
    simp
    omega
  have hall : ∀ (j : Nat) (s : Sl), (seed D t p).S[j]? = some s → (j = (freeD D).1 ∧ s = mkS (genAt (freeD D).2 (freeD D).1 + 1) t p []) ∨ (j ≠ (freeD D).1 ∧ D.S[j]? = some s) := fun j s h => by
    by_cases e : j = (freeD D).1
    · left
      rw [e, hget] at h
      cases h
      exact ⟨e, rfl⟩
    · right
      rw [hoth j e] at h
      exact ⟨e, h⟩
  refine ⟨⟨⟨?_, fun j s h => ?_⟩, fun j s h => ?_, fun j s h hd => ?_, fun j s h hl => ?_, fun j s h hl => ?_⟩, f2, ?_, ?_, ?_, ?_, hget, fun y hy => ?_, ?_, ?_⟩
  · show ((freeD D).2.S.set (freeD D).1 _).length ≤ 4096
    simpa using f4
  · rcases hall j s h with ⟨_, rfl⟩ | ⟨_, h1⟩
    · exact f6
    · exact hs.fits.gen j s h1
  · rcases hall j s h with ⟨_, rfl⟩ | ⟨_, h1⟩
    · show 1 ≤ genAt (freeD D).2 (freeD D).1 + 1
      omega
    · exact hs.gen1 j s h1
  · rcases hall j s h with ⟨_, rfl⟩ | ⟨_, h1⟩
    · cases hd
    · exact hs.dead j s h1 hd
  · rcases hall j s h with ⟨_, rfl⟩ | ⟨_, h1⟩
    · exact o1
    · exact hs.own j s h1 hl
  · rcases hall j s h with ⟨_, rfl⟩ | ⟨_, h1⟩
    · refine ⟨fun hk => ?_, fun hk => ?_⟩
      · have hk' : t.kind = 2 := hk
        exact ⟨rfl, by show (if t.kind = 2 then _ else _) = _; rw [if_pos hk'], by show (if t.kind = 2 then _ else _) = _; rw [if_pos hk']⟩
      · have hk' : t.kind = 1 := hk
        show (if t.kind = 2 then _ else _) = _
        rw [if_neg (by omega)]
    · exact hs.used j s h1 hl
  · rw [hcset takenB (by unfold takenB; rw [f8]; simp; omega) (by simp [takenB, mkS]), hcntD takenB (by simp [takenB, zeroSl])]
  · rw [hcset Sl.live f8 rfl, hcntD Sl.live rfl]
  · cases h : sl D (seedH D) with
    | none => rfl
    | some s =>
      obtain ⟨_, h2, h3, _⟩ := sl_iff.1 h
      unfold seedH at h2
      rw [e1] at h2
      simp only [Nat.add_sub_cancel] at h2
      rw [f12 s h2] at h3
      cases h3
  · have := atI_hnd (S := (seed D t p).S) hget rfl hil
    exact this
  · cases h : sl D y with
    | some s =>
      obtain ⟨h1, h2, h3, h4⟩ := sl_iff.1 h
      rw [sl_iff]
      refine ⟨h1, ?_, h3, h4⟩
      rw [hoth _ (fun e => ?_)]
      · exact h2
      · rw [e] at h2
        rw [f12 s h2] at h3
        cases h3
    | none =>
      cases h2 : sl (seed D t p) y with
      | none => rfl
      | some s =>
        exfalso
        obtain ⟨k1, k2, k3, k4⟩ := sl_iff.1 h2
        rcases hall _ s k2 with ⟨e, rfl⟩ | ⟨e, k5⟩
        · apply hy
          unfold seedH hnd
          have k4' : genAt (freeD D).2 (freeD D).1 + 1 = y / 4294967296 := k4
          rw [k4']
          omega
        · have := sl_iff.2 ⟨k1, k5, k3, k4⟩
          rw [h] at this
          cases this
  · unfold seedH hnd
    omega
  · unfold seedH hnd
    omega

end Go.Proofs.Ytjkgjckkglfokab.Gr
