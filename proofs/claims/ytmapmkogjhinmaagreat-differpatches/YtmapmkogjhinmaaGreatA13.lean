/- What every document keeps, kept: Delete. -/
import Derived.Test.YtmapmkogjhinmaaGreatA12
import Derived.Test.YtmapmkogjhinmaaGreatA11
namespace Go.Proofs.YtmapmkogjhinmaaGreat
open Go.RowKit
set_option maxRecDepth 100000
set_option maxHeartbeats 2000000
set_option linter.unusedVariables false
set_option linter.unusedSimpArgs false
theorem slots_setL {D : Dc} {p : Nat} {l' : List Nat} : (setL D p l').S.length = D.S.length /\ ∀ (j : Nat) (t : Sl), (setL D p l').S[j]? = some t -> ∃ t1, D.S[j]? = some t1 /\ (t = t1 \/ (sl D p = some t1 /\ p ≠ 0 /\ t = { t1 with kids := l' })) := by
 by_cases h0 : p = 0
 ·subst h0; rw [setL_zero]; exact ⟨rfl, fun j t ht => ⟨t, ht, .inl rfl⟩⟩
 ·cases ha : atI D.S p with
  | none =>
   have e : setL D p l' = D := by simp only [setL, if_neg h0, ha]
   rw [e]
   exact ⟨rfl, fun j t ht => ⟨t, ht, .inl rfl⟩⟩
  | some i =>
   obtain ⟨s, hs, _⟩ := atI_some ha
   rw [setL_some h0 ha hs]
   refine ⟨by simp, fun j t ht => ?_⟩
   have ht' : (D.S.set i { s with kids := l' })[j]? = some t := ht
   by_cases e : i = j
   ·subst e
    rw [List.getElem?_set_self (List.getElem?_eq_some_iff.1 hs).1] at ht'
    cases ht'
    exact ⟨s, hs, .inr ⟨by simp [sl, ha, hs], h0, rfl⟩⟩
   ·rw [List.getElem?_set_ne e] at ht'
    exact ⟨t, ht', .inl rfl⟩
theorem sl_setL_from {D : Dc} {p x : Nat} {l' : List Nat} {t : Sl} (h : sl (setL D p l') x = some t) : ∃ t0, sl D x = some t0 /\ t.parent = t0.parent := by
 by_cases e : x = p
 ·subst e
  cases hd : sl D x with
  | none =>
   by_cases h0 : x = 0
   ·rw [h0, setL_zero] at h
    have : sl D 0 = some t := h
    rw [sl_zero] at this; cases this
   ·have e2 : setL D x l' = D := by simp only [setL, if_neg h0, sl_none hd]
    rw [e2, hd] at h; cases h
  | some t0 =>
   rw [sl_setL_eq hd] at h
   cases h
   exact ⟨t0, rfl, rfl⟩
 ·rw [sl_setL_ne e] at h
  exact ⟨t, h, rfl⟩
theorem sl_setL_into {D : Dc} {p x : Nat} {l' : List Nat} {t0 : Sl} (h : sl D x = some t0) : ∃ t, sl (setL D p l') x = some t /\ t.parent = t0.parent := by
 by_cases e : x = p
 ·subst e
  exact ⟨_, sl_setL_eq h, rfl⟩
 ·exact ⟨t0, by rw [sl_setL_ne e]; exact h, rfl⟩
theorem lst_killA (E : Dc) (l : List Nat) (p : Nat) : lst (killA E l) p = if p = 0 then E.roots else if p ∈ l then [] else lst E p := by
 unfold lst
 by_cases h0 : p = 0
 ·rw [if_pos h0, if_pos h0, roots_killA]
 ·rw [if_neg h0, if_neg h0, if_neg h0, sl_killA]
  by_cases h1 : p ∈ l
  ·rw [if_pos h1, if_pos h1]
  ·rw [if_neg h1, if_neg h1]
theorem WF.del {D : Dc} (hw : WF D) (h : Nat) : WF (delD D h).1 := by
 unfold delD
 split
 ·exact hw
 ·rename_i s hs
  obtain ⟨lv, hl⟩ := hw.lev
  obtain ⟨k, hk, hkx, hkl⟩ := idxH_mem (hw.up h s hs)
  rw [hk, Int.toNat_natCast]
  have hsp := (dep_par hl hs).2
  have hclo := allH_kid hw hl 64 h s hs (by omega)
  have hlive := allH_live hw hs
  have hself : h ∈ allH D h := by rw [allH_step hw hs]; simp
  have hnod := hw.nodup s.parent
  have hspl : s.parent ≠ 0 -> ∀ t1, sl D s.parent = some t1 -> t1.kids ≠ [] := fun h0 t1 ht1 he => by
   have := hw.up h s hs
   rw [lst, if_neg h0, ht1] at this
   simp only [he] at this
   simp at this
  have hsub : ∀ x, x ∈ (lst D s.parent).take k ++ (lst D s.parent).drop (k + 1) -> x ∈ lst D s.parent /\ x ≠ h := fun x hx => by
   rw [List.mem_append] at hx
   have hxm : x ∈ lst D s.parent := by
    rcases hx with hx | hx
    ·exact List.mem_of_mem_take hx
    ·exact List.mem_of_mem_drop hx
   refine ⟨hxm, ?_⟩
   rintro rfl
   rcases hx with hx | hx
   ·exact not_mem_take hnod hkx hx
   ·obtain ⟨j, hj⟩ := List.getElem?_of_mem hx
    rw [List.getElem?_drop] at hj
    have := (List.getElem?_inj (List.getElem?_eq_some_iff.1 hj).1 hnod).1 (hj.trans hkx.symm)
    omega
  have hcut : ∀ x ∈ lst D s.parent, x ≠ h -> x ∈ (lst D s.parent).take k ++ (lst D s.parent).drop (k + 1) := fun x hx hne => mem_cut hkx hx hne
  have hnd2 : ((lst D s.parent).take k ++ (lst D s.parent).drop (k + 1)).Nodup := by
   have hsl : List.Sublist ((lst D s.parent).take k ++ (lst D s.parent).drop (k + 1)) (lst D s.parent) := by
    have h1 : List.Sublist ((lst D s.parent).drop (k + 1)) ((lst D s.parent).drop k) := by
     rw [<- List.drop_drop]
     exact List.drop_sublist 1 _
    have h2 := List.Sublist.append (List.Sublist.refl ((lst D s.parent).take k)) h1
    rwa [List.take_append_drop] at h2
   exact List.Sublist.nodup hsl hnod
  generalize hl' : (lst D s.parent).take k ++ (lst D s.parent).drop (k + 1) = l' at *
  have hlE : ∀ q, lst (setL D s.parent l') q = if q = s.parent then l' else lst D q := fun q => by
   by_cases e : q = s.parent
   ·rw [if_pos e, e, lst_setL_eq hsp]
   ·rw [if_neg e, lst_setL_ne e]
  have hrE : (setL D s.parent l').roots = lst (setL D s.parent l') 0 := by simp [lst]
  obtain ⟨c1, c2⟩ := slots_killA (allH D h) (setL D s.parent l')
  obtain ⟨d1, d2⟩ := slots_setL (D := D) (p := s.parent) (l' := l')
  have hS : ∀ (j : Nat) (t : Sl), (killA (setL D s.parent l') (allH D h)).S[j]? = some t -> ∃ t1, D.S[j]? = some t1 /\ t.gen = t1.gen /\ (t = zeroSl t1.gen \/ t = t1 \/ (sl D s.parent = some t1 /\ s.parent ≠ 0 /\ t = { t1 with kids := l' })) := fun j t ht => by
   obtain ⟨t0, g1, g2, g3⟩ := c2 j t ht
   obtain ⟨t1, k1, k2⟩ := d2 j t0 g1
   have hg0 : t0.gen = t1.gen := by
    rcases k2 with rfl | ⟨_, _, rfl⟩ <;> rfl
   refine ⟨t1, k1, g2.trans hg0, ?_⟩
   rcases g3 with rfl | rfl
   ·exact .inr k2
   ·exact .inl (by rw [hg0])
  have hA0 : 0 ∉ allH D h := fun h0 => by
   obtain ⟨t, ht⟩ := hlive 0 h0
   rw [sl_zero] at ht; cases ht
  refine ⟨⟨by rw [c1, d1]; exact hw.fits.len, fun j t ht => ?_⟩, fun j t ht => ?_, fun j t ht hd => ?_, fun j t ht hd => ?_, fun j t ht hd => ?_, ⟨lv, fun x t ht => ?_⟩, fun x t ht => ?_, fun p hp x hx => ?_, fun p => ?_⟩
  ·obtain ⟨t1, k1, k2, _⟩ := hS j t ht
   rw [k2]; exact hw.fits.gen j t1 k1
  ·obtain ⟨t1, k1, k2, _⟩ := hS j t ht
   rw [k2]; exact hw.gen1 j t1 k1
  ·obtain ⟨t1, k1, k2, k3⟩ := hS j t ht
   rcases k3 with e | rfl | ⟨e1, _, e2⟩
   ·rw [e]; rfl
   ·exact hw.dead j t k1 hd
   ·obtain ⟨_, _, _, e3, _⟩ := sl_live e1
    rw [e2] at hd
    have : t1.live = false := hd
    rw [e3] at this; cases this
  ·obtain ⟨t1, k1, k2, k3⟩ := hS j t ht
   rcases k3 with e | rfl | ⟨e1, _, e2⟩
   ·rw [e] at hd; cases hd
   ·exact hw.own j t k1 hd
   ·rw [e2] at hd ⊢
    exact hw.own j t1 k1 hd
  ·obtain ⟨t1, k1, k2, k3⟩ := hS j t ht
   rcases k3 with e | rfl | ⟨e1, e0, e2⟩
   ·rw [e] at hd; cases hd
   ·exact hw.used j t k1 hd
   ·rw [e2] at hd ⊢
    have hu := hw.used j t1 k1 hd
    refine ⟨fun h2 => ?_, hu.2⟩
    exact absurd (hu.1 h2).1 (hspl e0 t1 e1)
  ·rw [sl_killA] at ht
   by_cases hxa : x ∈ allH D h
   ·rw [if_pos hxa] at ht; cases ht
   ·rw [if_neg hxa] at ht
    obtain ⟨t0, h1, h2⟩ := sl_setL_from ht
    obtain ⟨g1, g2⟩ := hl x t0 h1
    refine ⟨g1, ?_⟩
    rw [h2]
    rcases g2 with g2 | ⟨q, g2, g3⟩
    ·exact .inl g2
    ·obtain ⟨q', e1, _⟩ := sl_setL_into (p := s.parent) (l' := l') g2
     refine .inr ⟨q', ?_, g3⟩
     rw [sl_killA, if_neg (fun hpa => hxa ((hclo _ hpa).1 x (hw.up x t0 h1)))]
     exact e1
  ·rw [sl_killA] at ht
   by_cases hxa : x ∈ allH D h
   ·rw [if_pos hxa] at ht; cases ht
   ·rw [if_neg hxa] at ht
    obtain ⟨t0, h1, h2⟩ := sl_setL_from ht
    have hup := hw.up x t0 h1
    rw [h2, lst_killA]
    have hpa : t0.parent ∉ allH D h := fun hpa => hxa ((hclo _ hpa).1 x hup)
    have hE : x ∈ lst (setL D s.parent l') t0.parent := by
     rw [hlE]
     by_cases e : t0.parent = s.parent
     ·rw [if_pos e]
      exact hcut x (by rw [<- e]; exact hup) (fun e => hxa (e ▸ hself))
     ·rw [if_neg e]; exact hup
    by_cases h0 : t0.parent = 0
    ·rw [if_pos h0, hrE, <- h0]; exact hE
    ·rw [if_neg h0, if_neg hpa]; exact hE
  ·have hpa : p ∉ allH D h := by
    rcases hp with rfl | ⟨q, hq⟩
    ·exact hA0
    ·intro hpa
     rw [sl_killA, if_pos hpa] at hq; cases hq
   have hp0 : p = 0 \/ ∃ q, sl D p = some q := by
    rcases hp with h0 | ⟨q, hq⟩
    ·exact .inl h0
    ·rw [sl_killA, if_neg hpa] at hq
     obtain ⟨t0, h1, _⟩ := sl_setL_from hq
     exact .inr ⟨t0, h1⟩
   have hE : x ∈ lst (setL D s.parent l') p := by
    rw [lst_killA] at hx
    by_cases h0 : p = 0
    ·rw [if_pos h0, hrE] at hx; rw [h0]; exact hx
    ·rw [if_neg h0, if_neg hpa] at hx; exact hx
   rw [hlE] at hE
   have hxD : x ∈ lst D p /\ (p = s.parent -> x ≠ h) := by
    by_cases e : p = s.parent
    ·rw [if_pos e] at hE
     exact ⟨by rw [e]; exact (hsub x hE).1, fun _ => (hsub x hE).2⟩
    ·rw [if_neg e] at hE
     exact ⟨hE, fun e' => absurd e' e⟩
   obtain ⟨t0, h1, h2⟩ := hw.down p hp0 x hxD.1
   have hxa : x ∉ allH D h := fun hxa => by
    by_cases e : x = h
    ·subst e
     rw [hs] at h1
     cases h1
     exact hxD.2 h2.symm rfl
    ·have := (hclo x hxa).2 e
     have hpx : par D x = p := by simp [par, h1, h2]
     rw [hpx] at this
     exact hpa this
   obtain ⟨t, e1, e2⟩ := sl_setL_into (p := s.parent) (l' := l') h1
   exact ⟨t, by rw [sl_killA, if_neg hxa]; exact e1, e2.trans h2⟩
  ·have hEn : ∀ q, (lst (setL D s.parent l') q).Nodup := fun q => by
    rw [hlE]
    by_cases e : q = s.parent
    ·rw [if_pos e]; exact hnd2
    ·rw [if_neg e]; exact hw.nodup q
   rw [lst_killA]
   by_cases h0 : p = 0
   ·rw [if_pos h0, hrE]; exact hEn 0
   ·rw [if_neg h0]
    by_cases hpa : p ∈ allH D h
    ·rw [if_pos hpa]; exact List.nodup_nil
    ·rw [if_neg hpa]; exact hEn p
theorem setPar_of {D : Dc} {n p : Nat} {s : Sl} (hs : sl D n = some s) : ∃ i, atI D.S n = some i /\ D.S[i]? = some s /\ setPar D n p = setS D i { s with parent := p } := by
 obtain ⟨i, ha, hi⟩ := sl_some hs
 refine ⟨i, ha, hi, ?_⟩
 simp only [setPar, ha, hi, setS]
theorem at_same {D : Dc} {n x i : Nat} (ha : atI D.S n = some i) (hx : atI D.S x = some i) : x = n := by
 obtain ⟨s, h1, _, _, _, _, e1⟩ := atI_some ha
 obtain ⟨s', h2, _, _, _, _, e2⟩ := atI_some hx
 rw [h1] at h2
 cases h2
 rw [e1, e2]
theorem sl_setPar {D : Dc} {n p : Nat} {s : Sl} (hs : sl D n = some s) (x : Nat) : sl (setPar D n p) x = if x = n then some { s with parent := p } else sl D x := by
 obtain ⟨i, ha, hi, e⟩ := setPar_of (p := p) hs
 rw [e, sl_setS (s' := { s with parent := p }) hi rfl rfl]
 by_cases hx : x = n
 ·subst hx
  rw [if_pos ha, if_pos rfl]
 ·rw [if_neg (fun h => hx (at_same ha h)), if_neg hx]
theorem lst_setPar {D : Dc} {n p : Nat} {s : Sl} (hs : sl D n = some s) (q : Nat) : lst (setPar D n p) q = lst D q := by
 obtain ⟨i, ha, hi, e⟩ := setPar_of (p := p) hs
 unfold lst
 by_cases h0 : q = 0
 ·rw [if_pos h0, if_pos h0, e]
  rfl
 ·rw [if_neg h0, if_neg h0, sl_setPar hs]
  by_cases hq : q = n
  ·subst hq
   rw [if_pos rfl, hs]
  ·rw [if_neg hq]
theorem cut_facts {l : List Nat} {n k : Nat} (hnod : l.Nodup) (hkx : l[k]? = some n) :
  (∀ x, x ∈ l.take k ++ l.drop (k + 1) ↔ x ∈ l /\ x ≠ n) /\ (l.take k ++ l.drop (k + 1)).Nodup := by
 have hsl : List.Sublist (l.take k ++ l.drop (k + 1)) l := by
  have h1 : List.Sublist (l.drop (k + 1)) (l.drop k) := by
   rw [<- List.drop_drop]
   exact List.drop_sublist 1 _
  have h2 := List.Sublist.append (List.Sublist.refl (l.take k)) h1
  rwa [List.take_append_drop] at h2
 refine ⟨fun x => ⟨fun hx => ⟨hsl.subset hx, ?_⟩, fun hx => mem_cut hkx hx.1 hx.2⟩, List.Sublist.nodup hsl hnod⟩
 rintro rfl
 rw [List.mem_append] at hx
 rcases hx with hx | hx
 ·exact not_mem_take hnod hkx hx
 ·obtain ⟨j, hj⟩ := List.getElem?_of_mem hx
  rw [List.getElem?_drop] at hj
  have := (List.getElem?_inj (List.getElem?_eq_some_iff.1 hj).1 hnod).1 (hj.trans hkx.symm)
  omega
theorem ins_facts {l : List Nat} {n k : Nat} (hnod : l.Nodup) (hn : n ∉ l) : (∀ x, x ∈ ins l k n ↔ x = n \/ x ∈ l) /\ (ins l k n).Nodup := by
 have hp : (ins l k n).Perm (n :: l) := by
  unfold ins
  have h1 : (l.take k ++ [n] ++ l.drop k).Perm ([n] ++ l.take k ++ l.drop k) := List.Perm.append_right _ List.perm_append_comm
  have h2 : [n] ++ l.take k ++ l.drop k = n :: l := by simp
  rw [h2] at h1
  exact h1
 refine ⟨fun x => by rw [hp.mem_iff, List.mem_cons], ?_⟩
 rw [hp.nodup_iff, List.nodup_cons]
 exact ⟨hn, hnod⟩
theorem within_hgt {D : Dc} (hw : WF D) {lv : Nat -> Nat} (hl : Lev D lv) {n : Nat} {s : Sl} (hs : sl D n = some s) : ∀ (m x : Nat) (t : Sl), sl D x = some t -> lv x <= m -> n ∈ ups D x -> ∀ k, k = lv x - lv n -> k + hgt D x <= hgt D n
 | 0, x, t, hx, hm, hn, k, hk => by
  rw [ups_step hl hx] at hn
  rcases List.mem_cons.1 hn with e | hn
  ·subst e
   omega
  ·have h1 := dep_par hl hx
   rcases h1.2 with e | ⟨q, hq⟩
   ·rw [e, ups_zero] at hn; cases hn
   ·have := (hl x t hx).2
    rcases this with h | ⟨q', hq', h⟩
    ·rw [h.1, sl_zero] at hq; cases hq
    ·omega
 | m + 1, x, t, hx, hm, hn, k, hk => by
  have hnx := hn
  rw [ups_step hl hx] at hn
  rcases List.mem_cons.1 hn with e | hn
  ·subst e
   omega
  ·have h1 := dep_par hl hx
   rcases h1.2 with e | ⟨q, hq⟩
   ·rw [e, ups_zero] at hn; cases hn
   ·have hlv : lv x = lv t.parent + 1 := by
     rcases (hl x t hx).2 with h | ⟨q', hq', h⟩
     ·rw [h.1, sl_zero] at hq; cases hq
     ·exact h
    have hge := (ups_one hl (lv t.parent) t.parent q hq (Nat.le_refl _)).1 n hn
    have ih := within_hgt hw hl hs m t.parent q hq (by omega) hn (lv t.parent - lv n) rfl
    have hst := hgt_step hw hq
    have hmem : x ∈ lst D t.parent := hw.up x t hx
    have hmx : hgt D x <= ((lst D t.parent).map (hgt D)).foldl max 0 := (foldl_max_ge _ 0).2 _ (List.mem_map.2 ⟨x, hmem, rfl⟩)
    omega
theorem hgt_pos {D : Dc} (hw : WF D) {x : Nat} {t : Sl} (hx : sl D x = some t) : 1 <= hgt D x := by
 rw [hgt_step hw hx]
 omega
theorem slots_setPar {D : Dc} {n p : Nat} {s : Sl} (hs : sl D n = some s) : (setPar D n p).S.length = D.S.length /\ ∀ (j : Nat) (t : Sl), (setPar D n p).S[j]? = some t -> ∃ t1, D.S[j]? = some t1 /\ (t = t1 \/ (t1.live = true /\ t = { t1 with parent := p })) := by
 obtain ⟨i, ha, hi, e⟩ := setPar_of (p := p) hs
 rw [e]
 refine ⟨by simp [setS], fun j t ht => ?_⟩
 have ht' : (D.S.set i { s with parent := p })[j]? = some t := ht
 by_cases e : i = j
 ·subst e
  rw [List.getElem?_set_self (List.getElem?_eq_some_iff.1 hi).1] at ht'
  cases ht'
  obtain ⟨_, _, _, hlv, _⟩ := sl_live hs
  exact ⟨s, hi, .inr ⟨hlv, rfl⟩⟩
 ·rw [List.getElem?_set_ne e] at ht'
  exact ⟨t, ht', .inl rfl⟩
theorem WF.put {D : Dc} (hw : WF D) {n p k : Nat} {s : Sl} (hs : sl D n = some s) (hp : p = 0 \/ ∃ q, sl D p = some q) (hup : n ∉ ups D p) (hkd : ∀ q, sl D p = some q -> q.kind ≠ 2) (hht : (ups D p).length + hgt D n <= 64) :
  WF (setPar (setL (outD D n s) p (ins (lst (outD D n s) p) k n)) n p) := by
 obtain ⟨lv, hl⟩ := hw.lev
 obtain ⟨kk, hk, hkx, hkl⟩ := idxH_mem (hw.up n s hs)
 have hsp := (dep_par hl hs).2
 obtain ⟨hcut, hcnd⟩ := cut_facts (hw.nodup s.parent) hkx
 have hE : outD D n s = setL D s.parent ((lst D s.parent).take kk ++ (lst D s.parent).drop (kk + 1)) := by
  unfold outD
  rw [hk, Int.toNat_natCast]
 rw [hE]
 generalize hl' : (lst D s.parent).take kk ++ (lst D s.parent).drop (kk + 1) = l' at *
 have hlE : ∀ q, lst (setL D s.parent l') q = if q = s.parent then l' else lst D q := fun q => by
  by_cases e : q = s.parent
  ·rw [if_pos e, e, lst_setL_eq hsp]
  ·rw [if_neg e, lst_setL_ne e]
 have hspl : s.parent ≠ 0 -> ∀ t1, sl D s.parent = some t1 -> t1.kids ≠ [] := fun h0 t1 ht1 he => by
  have := hw.up n s hs
  rw [lst, if_neg h0, ht1] at this
  simp only [he] at this
  simp at this
 obtain ⟨sE, hsE, hsEp⟩ := sl_setL_into (p := s.parent) (l' := l') hs
 have hpE : p = 0 \/ ∃ q, sl (setL D s.parent l') p = some q := hp.imp id (fun ⟨q, hq⟩ => by obtain ⟨q', h1, _⟩ := sl_setL_into (p := s.parent) (l' := l') hq; exact ⟨q', h1⟩)
 have hnE : n ∉ lst (setL D s.parent l') p := fun hm => by
  rw [hlE] at hm
  by_cases e : p = s.parent
  ·rw [if_pos e] at hm
   exact ((hcut n).1 hm).2 rfl
  ·rw [if_neg e] at hm
   obtain ⟨t, h1, h2⟩ := hw.down p hp n hm
   rw [hs] at h1
   cases h1
   exact e h2.symm
 have hndE : (lst (setL D s.parent l') p).Nodup := by
  rw [hlE]
  split
  ·exact hcnd
  ·exact hw.nodup p
 obtain ⟨hins, hind⟩ := ins_facts (k := k) hndE hnE
 generalize hl2 : ins (lst (setL D s.parent l') p) k n = l2 at *
 obtain ⟨s2, hs2, hs2p⟩ := sl_setL_into (p := p) (l' := l2) hsE
 have hlF : ∀ q, lst (setPar (setL (setL D s.parent l') p l2) n p) q = if q = p then l2 else lst (setL D s.parent l') q := fun q => by
  rw [lst_setPar hs2]
  by_cases e : q = p
  ·rw [if_pos e, e, lst_setL_eq hpE]
  ·rw [if_neg e, lst_setL_ne e]
 have hfrom : ∀ x t, sl (setPar (setL (setL D s.parent l') p l2) n p) x = some t -> ∃ t0, sl D x = some t0 /\ t.parent = if x = n then p else t0.parent := fun x t ht => by
  rw [sl_setPar hs2] at ht
  by_cases e : x = n
  ·rw [if_pos e] at ht
   cases ht
   exact ⟨s, by rw [e]; exact hs, by rw [if_pos e]⟩
  ·rw [if_neg e] at ht
   obtain ⟨t1, h1, h2⟩ := sl_setL_from ht
   obtain ⟨t0, h3, h4⟩ := sl_setL_from h1
   exact ⟨t0, h3, by rw [if_neg e, h2, h4]⟩
 have hinto : ∀ x t0, sl D x = some t0 -> ∃ t, sl (setPar (setL (setL D s.parent l') p l2) n p) x = some t /\ t.parent = if x = n then p else t0.parent := fun x t0 ht => by
  rw [sl_setPar hs2]
  by_cases e : x = n
  ·rw [if_pos e, if_pos e]
   exact ⟨_, rfl, rfl⟩
  ·rw [if_neg e, if_neg e]
   obtain ⟨t1, h1, h2⟩ := sl_setL_into (p := s.parent) (l' := l') ht
   obtain ⟨t2, h3, h4⟩ := sl_setL_into (p := p) (l' := l2) h1
   exact ⟨t2, h3, by rw [h4, h2]⟩
 obtain ⟨c1, c2⟩ := slots_setPar (p := p) hs2
 obtain ⟨d1, d2⟩ := slots_setL (D := setL D s.parent l') (p := p) (l' := l2)
 obtain ⟨f1, f2⟩ := slots_setL (D := D) (p := s.parent) (l' := l')
 have hS : ∀ (j : Nat) (t : Sl), (setPar (setL (setL D s.parent l') p l2) n p).S[j]? = some t -> ∃ t1, D.S[j]? = some t1 /\ t.gen = t1.gen /\ t.live = t1.live /\ t.kind = t1.kind /\ t.name = t1.name /\ t.attrs = t1.attrs /\ t.text = t1.text /\ (t = t1 \/ t1.live = true) /\ (t.kids = t1.kids \/ t1.kind ≠ 2) := fun j t ht => by
  obtain ⟨t3, g1, g2⟩ := c2 j t ht
  obtain ⟨t2, k1, k2⟩ := d2 j t3 g1
  obtain ⟨t1, m1, m2⟩ := f2 j t2 k1
  have hA : t2.gen = t1.gen /\ t2.live = t1.live /\ t2.kind = t1.kind /\ t2.name = t1.name /\ t2.attrs = t1.attrs /\ t2.text = t1.text /\ (t2 = t1 \/ t1.live = true) /\ (t2.kids = t1.kids \/ t1.kind ≠ 2) := by
   rcases m2 with rfl | ⟨e1, e0, rfl⟩
   ·exact ⟨rfl, rfl, rfl, rfl, rfl, rfl, .inl rfl, .inl rfl⟩
   ·obtain ⟨_, _, h3, h4, _⟩ := sl_live e1
    refine ⟨rfl, rfl, rfl, rfl, rfl, rfl, .inr h4, .inr (fun h2 => ?_)⟩
    exact hspl e0 t1 e1 (((hw.used j t1 m1 h4).1 h2).1)
  have hB : t3.gen = t2.gen /\ t3.live = t2.live /\ t3.kind = t2.kind /\ t3.name = t2.name /\ t3.attrs = t2.attrs /\ t3.text = t2.text /\ (t3 = t2 \/ t2.live = true) /\ (t3.kids = t2.kids \/ t2.kind ≠ 2) := by
   rcases k2 with rfl | ⟨e1, e0, rfl⟩
   ·exact ⟨rfl, rfl, rfl, rfl, rfl, rfl, .inl rfl, .inl rfl⟩
   ·obtain ⟨_, _, _, h4, _⟩ := sl_live e1
    refine ⟨rfl, rfl, rfl, rfl, rfl, rfl, .inr h4, .inr (fun h2 => ?_)⟩
    obtain ⟨q, hq⟩ := hp.resolve_left e0
    by_cases ep : p = s.parent
    ·rw [<- ep, sl_setL_eq hq] at e1
     cases e1
     exact hkd q hq h2
    ·rw [sl_setL_ne ep, hq] at e1
     cases e1
     exact hkd t2 hq h2
  obtain ⟨a1, a2, a3, a4, a5, a6, a7, a8⟩ := hA
  obtain ⟨b1, b2, b3, b4, b5, b6, b7, b8⟩ := hB
  have hC : t.gen = t3.gen /\ t.live = t3.live /\ t.kind = t3.kind /\ t.name = t3.name /\ t.attrs = t3.attrs /\ t.text = t3.text /\ (t = t3 \/ t3.live = true) /\ t.kids = t3.kids := by
   rcases g2 with rfl | ⟨h1, rfl⟩
   ·exact ⟨rfl, rfl, rfl, rfl, rfl, rfl, .inl rfl, rfl⟩
   ·exact ⟨rfl, rfl, rfl, rfl, rfl, rfl, .inr h1, rfl⟩
  obtain ⟨q1, q2, q3, q4, q5, q6, q7, q8⟩ := hC
  refine ⟨t1, m1, q1.trans (b1.trans a1), q2.trans (b2.trans a2), q3.trans (b3.trans a3), q4.trans (b4.trans a4), q5.trans (b5.trans a5), q6.trans (b6.trans a6), ?_, ?_⟩
  ·rcases q7 with rfl | h
   ·rcases b7 with rfl | h
    ·exact a7
    ·exact .inr (by rw [<- a2]; exact h)
   ·exact .inr (by rw [<- a2, <- b2]; exact h)
  ·rcases b8 with h | h
   ·rcases a8 with h' | h'
    ·exact .inl (q8.trans (h.trans h'))
    ·exact .inr h'
   ·exact .inr (by rw [<- a3]; exact h)
 have hdp : (ups D p).length = dep lv p := ups_length hl hp
 have hge : ∀ x t, sl D x = some t -> n ∈ ups D x -> lv n <= lv x := fun x t hx hn => (ups_one hl (lv x) x t hx (Nat.le_refl _)).1 n hn
 have hself : n ∈ ups D n := by rw [ups_step hl hs]; simp
 refine ⟨⟨by rw [c1, d1, f1]; exact hw.fits.len, fun j t ht => ?_⟩, fun j t ht => ?_, fun j t ht hd => ?_, fun j t ht hd => ?_, fun j t ht hd => ?_, ⟨fun x => if n ∈ ups D x then lv x - lv n + dep lv p else lv x, fun x t ht => ?_⟩, fun x t ht => ?_, fun q hq x hx => ?_, fun q => ?_⟩
 ·obtain ⟨t1, h1, h2, _⟩ := hS j t ht
  rw [h2]; exact hw.fits.gen j t1 h1
 ·obtain ⟨t1, h1, h2, _⟩ := hS j t ht
  rw [h2]; exact hw.gen1 j t1 h1
 ·obtain ⟨t1, h1, h2, h3, _, _, _, _, h8, _⟩ := hS j t ht
  rcases h8 with rfl | h8
  ·exact hw.dead j t h1 hd
  ·rw [h3, h8] at hd; cases hd
 ·obtain ⟨t1, h1, h2, h3, h4, h5, h6, h7, _, _⟩ := hS j t ht
  have := hw.own j t1 h1 (by rw [<- h3]; exact hd)
  have e : ndOf t = ndOf t1 := by simp [ndOf, h4, h5, h6, h7]
  rw [e]; exact this
 ·obtain ⟨t1, h1, h2, h3, h4, h5, h6, h7, _, h9⟩ := hS j t ht
  obtain ⟨u1, u2⟩ := hw.used j t1 h1 (by rw [<- h3]; exact hd)
  refine ⟨fun h => ?_, fun h => by rw [h7]; exact u2 (by rw [<- h4]; exact h)⟩
  rw [h4] at h
  obtain ⟨v1, v2, v3⟩ := u1 h
  rcases h9 with h9 | h9
  ·exact ⟨by rw [h9]; exact v1, by rw [h5]; exact v2, by rw [h6]; exact v3⟩
  ·exact absurd h h9
 ·obtain ⟨t0, h1, h2⟩ := hfrom x t ht
  by_cases hxn : x = n
  ·subst hxn
   rw [if_pos rfl] at h2
   rw [hs] at h1
   cases h1
   simp only [if_pos hself, Nat.sub_self, Nat.zero_add]
   have hb := hgt_pos hw hs
   refine ⟨by omega, ?_⟩
   rw [h2]
   rcases hp with rfl | ⟨q, hq⟩
   ·exact .inl ⟨rfl, rfl⟩
   ·right
    obtain ⟨q', e1, _⟩ := hinto p q hq
    refine ⟨q', e1, ?_⟩
    rw [if_neg hup]
    have h0 : p ≠ 0 := fun e => by rw [e, sl_zero] at hq; cases hq
    simp [dep, h0]
  ·rw [if_neg hxn] at h2
   obtain ⟨g1, g2⟩ := hl x t0 h1
   by_cases hin : n ∈ ups D x
   ·simp only [if_pos hin]
    have hin2 := hin
    rw [ups_step hl h1] at hin2
    have hin3 : n ∈ ups D t0.parent := by
     rcases List.mem_cons.1 hin2 with e | h
     ·exact absurd e.symm hxn
     ·exact h
    have h0 : t0.parent ≠ 0 := fun e => by rw [e, ups_zero] at hin3; cases hin3
    rcases g2 with g2 | ⟨q, hq, g3⟩
    ·exact absurd g2.1 h0
    ·have hq1 := hge t0.parent q hq hin3
     have hw1 := within_hgt hw hl hs (lv x) x t0 h1 (Nat.le_refl _) hin _ rfl
     have hp1 := hgt_pos hw h1
     refine ⟨by omega, .inr ?_⟩
     obtain ⟨q', e1, _⟩ := hinto t0.parent q hq
     rw [h2]
     refine ⟨q', e1, ?_⟩
     rw [if_pos hin3]
     omega
   ·simp only [if_neg hin]
    refine ⟨g1, ?_⟩
    rw [h2]
    rcases g2 with g2 | ⟨q, hq, g3⟩
    ·exact .inl g2
    ·right
     obtain ⟨q', e1, _⟩ := hinto t0.parent q hq
     refine ⟨q', e1, ?_⟩
     have hnin : n ∉ ups D t0.parent := fun h => hin (by rw [ups_step hl h1]; exact List.mem_cons_of_mem _ h)
     rw [if_neg hnin]
     exact g3
 ·obtain ⟨t0, h1, h2⟩ := hfrom x t ht
  rw [h2]
  by_cases hxn : x = n
  ·rw [if_pos hxn, hlF, if_pos rfl, hins]
   exact .inl hxn
  ·rw [if_neg hxn, hlF]
   have hu := hw.up x t0 h1
   have hxE : x ∈ lst (setL D s.parent l') t0.parent := by
    rw [hlE]
    by_cases e : t0.parent = s.parent
    ·rw [if_pos e, hcut]
     exact ⟨by rw [<- e]; exact hu, hxn⟩
    ·rw [if_neg e]; exact hu
   by_cases e : t0.parent = p
   ·rw [if_pos e, hins]
    exact .inr (by rw [<- e]; exact hxE)
   ·rw [if_neg e]; exact hxE
 ·have hq0 : q = 0 \/ ∃ t, sl D q = some t := hq.imp id (fun ⟨t, ht⟩ => by obtain ⟨t0, h1, _⟩ := hfrom q t ht; exact ⟨t0, h1⟩)
  have old : ∀ q, (q = 0 \/ ∃ t, sl D q = some t) -> x ∈ lst (setL D s.parent l') q -> x ≠ n -> ∃ t, sl (setPar (setL (setL D s.parent l') p l2) n p) x = some t /\ t.parent = q := fun q hq0 hxE hxn => by
   have hxD : x ∈ lst D q := by
    rw [hlE] at hxE
    by_cases e : q = s.parent
    ·rw [if_pos e] at hxE
     rw [e]; exact ((hcut x).1 hxE).1
    ·rw [if_neg e] at hxE; exact hxE
   obtain ⟨t0, h1, h2⟩ := hw.down q hq0 x hxD
   obtain ⟨t, h3, h4⟩ := hinto x t0 h1
   exact ⟨t, h3, by rw [h4, if_neg hxn, h2]⟩
  rw [hlF] at hx
  by_cases e : q = p
  ·rw [if_pos e, hins] at hx
   rcases hx with rfl | hx
   ·obtain ⟨t, h3, h4⟩ := hinto x s hs
    exact ⟨t, h3, by rw [h4, if_pos rfl, e]⟩
   ·exact old q hq0 (by rw [e]; exact hx) (fun h => hnE (h ▸ hx))
  ·rw [if_neg e] at hx
   refine old q hq0 hx (fun h => ?_)
   subst h
   rw [hlE] at hx
   by_cases e2 : q = s.parent
   ·rw [if_pos e2] at hx
    exact ((hcut x).1 hx).2 rfl
   ·rw [if_neg e2] at hx
    obtain ⟨t0, h1, h2⟩ := hw.down q hq0 x hx
    rw [hs] at h1
    cases h1
    exact e2 h2.symm
 ·rw [hlF]
  by_cases e : q = p
  ·rw [if_pos e]; exact hind
  ·rw [if_neg e, hlE]
   split
   ·exact hcnd
   ·exact hw.nodup q
theorem place_facts {D : Dc} (hw : WF D) {wh : Int} {a : Nat} (he : (placeE D wh a).2 = 0) (hpl : isPlaceB wh a = true) :
  (∀ q, sl D (placeE D wh a).1 = some q -> q.kind ≠ 2) /\ (∀ n, n ∉ ups D a -> n ∉ ups D (placeE D wh a).1) /\ (placeE D wh a).1 = arD D wh a /\ (wh = 1 \/ wh = 2 \/ ((wh = 3 \/ wh = 4) /\ a ∈ lst D (placeE D wh a).1)) := by
 obtain ⟨lv, hl⟩ := hw.lev
 have hpl' : wh = 1 \/ wh = 2 \/ ((wh = 3 \/ wh = 4) /\ a ≠ 0) := by simpa [isPlaceB] using hpl
 by_cases h0 : a = 0
 ·subst h0
  have e : placeE D wh 0 = (0, 0) := by simp [placeE]
  rw [e]
  refine ⟨(by intro q hq; rw [sl_zero] at hq; cases hq), fun n hn => hn, ?_, ?_⟩
  ·unfold arD
   split
   ·rename_i h
    rcases hpl' with h' | h' | h'
    ·omega
    ·omega
    ·exact absurd rfl h'.2
   ·rfl
  ·rcases hpl' with h' | h' | h'
   ·exact .inl h'
   ·exact .inr (.inl h')
   ·exact absurd rfl h'.2
 ·cases hs : sl D a with
  | none =>
   have e : placeE D wh a = (0, 8) := by simp [placeE, h0, hs]
   rw [e] at he
   cases he
  | some s =>
   by_cases hwh : wh <= 2
   ·by_cases hk : s.kind = 2
    ·have e : placeE D wh a = (0, 31) := by simp [placeE, h0, hs, hwh, hk]
     rw [e] at he
     cases he
    ·have e : placeE D wh a = (a, 0) := by simp [placeE, h0, hs, hwh, hk]
     rw [e]
     refine ⟨fun q hq => by rw [hs] at hq; cases hq; exact hk, fun n hn => hn, ?_, ?_⟩
     ·unfold arD
      rw [if_neg (by omega)]
     ·rcases hpl' with h' | h' | h'
      ·exact .inl h'
      ·exact .inr (.inl h')
      ·omega
   ·have e : placeE D wh a = (s.parent, 0) := by simp [placeE, h0, hs, hwh]
    rw [e]
    have hu := hw.up a s hs
    refine ⟨fun q hq hk => ?_, fun n hn h => hn ?_, ?_, ?_⟩
    ·obtain ⟨i, _, hi, hlv, _⟩ := sl_live hq
     have := ((hw.used i q hi hlv).1 hk).1
     have hp0 : s.parent ≠ 0 := fun e => by rw [e, sl_zero] at hq; cases hq
     rw [lst, if_neg hp0, hq] at hu
     simp only [this] at hu
     cases hu
    ·rw [ups_step hl hs]
     exact List.mem_cons_of_mem _ h
    ·unfold arD
     rw [if_pos (by omega)]
     simp [par, hs]
    ·rcases hpl' with h' | h' | h'
     ·omega
     ·omega
     ·exact .inr (.inr ⟨h'.1, hu⟩)
theorem WF.mov {D : Dc} (hw : WF D) (n : Nat) (wh : Int) (a : Nat) : WF (movD D n wh a).1 := by
 unfold movD
 split
 ·exact hw
 ·rename_i hpl
  split
  ·exact hw
  ·rename_i s hs
   split
   ·exact hw
   ·split
    ·exact hw
    ·rename_i h8 hup
     split
     ·exact hw
     ·rename_i he
      split
      ·exact hw
      ·rename_i hht
       have he' : (placeE D wh a).2 = 0 := by simpa using he
       have hpl' : isPlaceB wh a = true := by simpa using hpl
       obtain ⟨f1, f2, f3, f4⟩ := place_facts hw he' hpl'
       have hupn : n ∉ ups D a := by simpa using hup
       exact hw.put hs (placeE_live hw he').1 (f2 n hupn) f1 (by omega)
theorem link_any (w : World) (ro : Nat -> Nat) (db : Nat) (D : Dc) (n a p : Nat) (wh : Int) (hd : PDoc w ro db D) (hf : Fits D) (hal : a < 18446744073709551616) (hpl : p < 18446744073709551616) (hpp : p = 0 \/ ∃ s, sl D p = some s) (hll : (lst D p).length <= 4096) (har : arD D wh a = p)
  (hwh : wh = 1 \/ wh = 2 \/ ((wh = 3 \/ wh = 4) /\ a ∈ lst D p /\ ∃ s, sl D a = some s)) :
  Calls Tryz.prog 48 #[.pointer (some ⟨db, 0, none⟩), .int .u64 (n : Int), .int .i64 wh, .int .u64 (a : Int)] w (LinkP w ro db (setL D p (ins (lst D p) (whereN (lst D p) wh a) n))) := by
 rcases hwh with rfl | rfl | ⟨rfl | rfl, hm, hs⟩
 ·exact link_first w ro db D n a p hd hf hal hpl hpp hll har
 ·exact link_last w ro db D n a p hd hf hal hpl hpp hll har
 ·exact link_before w ro db D n a p hd hf hal hpl hpp hll har hm hs
 ·exact link_after w ro db D n a p hd hf hal hpl hpp hll har hm hs
theorem setL_setPar {E : Dc} {n p q : Nat} {s : Sl} {l' : List Nat} (hs : sl E n = some s) : setL (setPar E n p) q l' = setPar (setL E q l') n p := by
 obtain ⟨i, ha, hi, e⟩ := setPar_of (p := p) hs
 have hil := (List.getElem?_eq_some_iff.1 hi).1
 by_cases h0 : q = 0
 ·subst h0
  rw [setL_zero, setL_zero, e]
  have h2 : sl { E with roots := l' } n = some s := hs
  obtain ⟨i2, ha2, hi2, e2⟩ := setPar_of (p := p) h2
  rw [e2]
  have : i2 = i := by
   have h3 : atI E.S n = some i2 := ha2
   rw [ha] at h3
   cases h3
   rfl
  subst this
  rfl
 ·cases hq : atI E.S q with
  | none =>
   have e1 : setL E q l' = E := by simp only [setL, if_neg h0, hq]
   have hq2 : atI (setPar E n p).S q = none := by
    rw [e]
    show atI (E.S.set i _) q = none
    rw [atI_set_same (j := 0) (s' := { s with parent := p }) hi rfl rfl]
    exact hq
   have e2 : setL (setPar E n p) q l' = setPar E n p := by simp only [setL, if_neg h0, hq2]
   rw [e1, e2]
  | some j =>
   obtain ⟨t, ht, htl, _⟩ := atI_some hq
   have hjl := (List.getElem?_eq_some_iff.1 ht).1
   have hq2 : atI (setPar E n p).S q = some j := by
    rw [e]
    show atI (E.S.set i _) q = some j
    rw [atI_set_same (j := 0) (s' := { s with parent := p }) hi rfl rfl]
    exact hq
   rw [setL_some h0 hq ht]
   obtain ⟨s2, h2, _⟩ := sl_setL_into (p := q) (l' := l') hs
   rw [setL_some h0 hq ht] at h2
   obtain ⟨i2, ha2, hi2, e2⟩ := setPar_of (p := p) h2
   have hii : i2 = i := by
    have h3 : atI (E.S.set j { t with kids := l' }) n = some i2 := ha2
    rw [atI_set_same (j := 0) (s' := { t with kids := l' }) ht rfl rfl, ha] at h3
    cases h3
    rfl
   subst hii
   rw [e2]
   have hi2' : (E.S.set j { t with kids := l' })[i2]? = some s2 := hi2
   by_cases hij : j = i2
   ·subst hij
    rw [hi] at ht
    cases ht
    rw [List.getElem?_set_self hjl] at hi2'
    cases hi2'
    rw [setL_some (D := setPar E n p) h0 hq2 (by rw [e]; exact List.getElem?_set_self hjl), e]
    simp [setS]
   ·rw [List.getElem?_set_ne hij, hi] at hi2'
    cases hi2'
    rw [setL_some (D := setPar E n p) (s := t) h0 hq2 (by rw [e]; show (E.S.set i2 _)[j]? = some t; rw [List.getElem?_set_ne (Ne.symm hij)]; exact ht), e]
    show ({ setS E i2 _ with S := (E.S.set i2 { s with parent := p }).set j { t with kids := l' } } : Dc) = { E with S := (E.S.set j { t with kids := l' }).set i2 { s with parent := p } }
    rw [List.set_comm _ _ (Ne.symm hij)]
    rfl
theorem movD_eq {D : Dc} (hw : WF D) {n a : Nat} {wh : Int} {s : Sl} (hpl : isPlaceB wh a = true) (hs : sl D n = some s) (hla : liveB D a = true) (hup : (ups D a).contains n = false) :
  movD D n wh a = if fitsE D (arD D wh a) (hgt D n) = 0 then (putD (outD D n s) n (arD D wh a) wh a, 0) else (D, fitsE D (arD D wh a) (hgt D n)) := by
 have hlive : a = 0 \/ ∃ t, sl D a = some t := by
  unfold liveB at hla
  by_cases h0 : a = 0
  ·exact .inl h0
  ·right
   simp [h0] at hla
   obtain ⟨i, hi⟩ := Option.isSome_iff_exists.1 hla
   obtain ⟨t, h1, _⟩ := sl_of_at hi
   exact ⟨t, h1⟩
 have h8 : (placeE D wh a).2 ≠ 8 := by
  unfold placeE
  split
  ·simp
  ·rename_i h0
   obtain ⟨t, ht⟩ := hlive.resolve_left h0
   rw [ht]
   simp only
   split
   ·split <;> simp
   ·simp
 have hpl' : ¬ isPlaceB wh a = false := by simp [hpl]
 unfold movD
 rw [if_neg hpl', hs]
 simp only
 rw [if_neg h8, if_neg (by rw [hup]; simp)]
 rcases placeE_err D wh a with he | he | he
 ·obtain ⟨f1, f2, f3, f4⟩ := place_facts hw he hpl
  rw [if_neg (by simp [he]), f3]
  have hno : ¬ ∃ q, sl D (arD D wh a) = some q /\ q.kind = 2 := fun ⟨q, h1, h2⟩ => f1 q (by rw [f3]; exact h1) h2
  unfold fitsE
  rw [if_neg hno]
  by_cases hd : 64 < (ups D (arD D wh a)).length + hgt D n
  ·rw [if_pos hd, if_pos hd, if_neg (by decide)]
  ·rw [if_neg hd, if_neg hd, if_pos rfl]
 ·exact absurd he h8
 ·rw [if_pos (by simp [he]), he]
  have h0 : a ≠ 0 := fun e => by
   subst e
   simp [placeE] at he
  obtain ⟨t, ht⟩ := hlive.resolve_left h0
  have hk : wh <= 2 /\ t.kind = 2 := by
   unfold placeE at he
   rw [if_neg h0, ht] at he
   simp only at he
   by_cases h1 : wh <= 2
   ·by_cases h2 : t.kind = 2
    ·exact ⟨h1, h2⟩
    ·simp [h1, h2] at he
   ·simp [h1] at he
  have har : arD D wh a = a := by unfold arD; rw [if_neg (by omega)]
  have hyes : ∃ q, sl D (arD D wh a) = some q /\ q.kind = 2 := ⟨t, by rw [har]; exact ht, hk.2⟩
  unfold fitsE
  rw [if_pos hyes, if_neg (by decide)]
theorem arD_put {D : Dc} {n a p : Nat} {wh : Int} {s : Sl} (hs : sl D n = some s) (hne : wh = 3 \/ wh = 4 -> a ≠ n) : arD (setPar (outD D n s) n p) wh a = arD D wh a := by
 unfold arD
 split
 ·rename_i h
  have hsE : ∃ t, sl (outD D n s) n = some t := by
   obtain ⟨t, h1, _⟩ := sl_setL_into (p := s.parent) (l' := (lst D s.parent).take (idxH (lst D s.parent) n).toNat ++ (lst D s.parent).drop ((idxH (lst D s.parent) n).toNat + 1)) hs
   exact ⟨t, h1⟩
  obtain ⟨t, ht⟩ := hsE
  unfold par
  rw [sl_setPar ht, if_neg (hne h)]
  unfold outD
  cases ha : sl D a with
  | none =>
   cases hb : sl (setL D s.parent ((lst D s.parent).take (idxH (lst D s.parent) n).toNat ++ (lst D s.parent).drop ((idxH (lst D s.parent) n).toNat + 1))) a with
   | none => rfl
   | some u =>
    obtain ⟨u0, h1, _⟩ := sl_setL_from hb
    rw [ha] at h1
    cases h1
  | some u =>
   obtain ⟨u', h1, h2⟩ := sl_setL_into (p := s.parent) (l' := (lst D s.parent).take (idxH (lst D s.parent) n).toNat ++ (lst D s.parent).drop ((idxH (lst D s.parent) n).toNat + 1)) ha
   rw [h1]
   exact h2
 ·rfl
theorem Fits.setS {D : Dc} (hf : Fits D) {i : Nat} {s s' : Sl} (hs : D.S[i]? = some s) (hg : s'.gen = s.gen) : Fits (setS D i s') := by
 refine ⟨by simp [YtmapmkogjhinmaaGreat.setS]; exact hf.len, fun j t ht => ?_⟩
 have ht' : (D.S.set i s')[j]? = some t := ht
 by_cases e : i = j
 ·subst e
  rw [List.getElem?_set_self (List.getElem?_eq_some_iff.1 hs).1] at ht'
  cases ht'
  rw [hg]
  exact hf.gen i s hs
 ·rw [List.getElem?_set_ne e] at ht'
  exact hf.gen j t ht'
theorem PDoc.parent {w : World} {ro : Nat -> Nat} {db : Nat} {E : Dc} (hd : PDoc w ro db E) {n p i : Nat} {s : Sl} (hs : sl E n = some s) (ha : atI E.S n = some i) (hi : E.S[i]? = some s) :
  ∃ g scap, w.cell? ⟨db, 0, none⟩ = some (.slice (some ⟨g, 0, none⟩) E.S.length scap) /\ ro g ≠ 0 /\ g < w.heap.size /\ ∀ W, Below w.heap.size w W -> (∃ u, W.cell? ⟨g, i * 8 + 6, none⟩ = some (.int .u64 u)) /\ W.frozen? ⟨g, i * 8 + 6, none⟩ = false /\ PDoc (W.setCell ⟨g, i * 8 + 6, none⟩ (.int .u64 (p : Int))) ro db (setPar E n p) := by
 obtain ⟨sa, scap, ra, rcap, L, h⟩ := hd
 obtain ⟨g, q, rfl, hg2, hq, hcap, hhd, hcl⟩ := h.slot hi
 refine ⟨g, scap, hhd, by omega, h.lt g (by omega), fun W hW => ?_⟩
 have h' := h.below hW
 obtain ⟨g', q', e, _, hq', _, _, hcl'⟩ := h'.slot hi
 cases e
 obtain ⟨i', ha', hi', e⟩ := setPar_of (p := p) hs
 rw [ha] at ha'
 cases ha'
 refine ⟨⟨_, (hcl' 6 _ rfl).1⟩, (hcl' 6 _ rfl).2, ?_⟩
 rw [e]
 exact ⟨_, _, _, _, _, h'.store (s' := { s with parent := p }) hi hq' (by omega) rfl rfl rfl rfl⟩
structure PE (w : World) (ro : Nat -> Nat) (db : Nat) (D' : Dc) (w' : World) (ro' : Nat -> Nat) : Prop where
 turn : Turn (fun b => ro b ≠ 0) w w'
 doc : PDoc w' ro' db D'
 from' : ∀ b, ro' b ≠ 0 -> ro b ≠ 0 \/ w.heap.size <= b
theorem PE.refl {w w' : World} {ro : Nat -> Nat} {db : Nat} {D : Dc} (h : PDoc w ro db D) (hb : Below w.heap.size w w') : PE w ro db D w' ro := by
 obtain ⟨sa, scap, ra, rcap, L, h⟩ := h
 exact ⟨(below_turn hb).mono (fun _ _ h => h.elim), ⟨sa, scap, ra, rcap, L, h.below hb⟩, fun b hb => .inl hb⟩
theorem PE.trans {w w1 w2 : World} {ro ro1 ro2 : Nat -> Nat} {db : Nat} {D E : Dc} (h : PE w ro db D w1 ro1) (k : PE w1 ro1 db E w2 ro2) : PE w ro db E w2 ro2 := by
 refine ⟨⟨k.turn.os.trans h.turn.os, k.turn.tape.trans h.turn.tape, k.turn.output.trans h.turn.output, Nat.le_trans h.turn.size k.turn.size, fun b hb hn => ?_⟩, k.doc, fun b hb => ?_⟩
 ·rw [k.turn.block b (Nat.lt_of_lt_of_le hb h.turn.size) (fun h1 => ?_), h.turn.block b hb hn]
  rcases h.from' b h1 with h2 | h2
  ·exact hn h2
  ·omega
 ·rcases k.from' b hb with h1 | h1
  ·exact h.from' b h1
  ·exact .inr (Nat.le_trans h.turn.size h1)
theorem PE.below {w w1 w2 : World} {ro ro1 : Nat -> Nat} {db : Nat} {D : Dc} (h : PE w ro db D w1 ro1) (hb : Below w1.heap.size w1 w2) : PE w ro db D w2 ro1 := h.trans (PE.refl h.doc hb)
theorem PE.post {w w1 : World} {ro ro1 : Nat -> Nat} {db : Nat} {D : Dc} {z : Int} (h : PE w ro db D w1 ro1) : PPost w ro db D z (.returned (.int .i64 z)) w1 := ⟨rfl, h.turn, ro1, h.doc, h.from'⟩
theorem LinkP.pe {w w1 : World} {ro : Nat -> Nat} {db : Nat} {D : Dc} {e : Ending} (h : LinkP w ro db D e w1) : e = .returned (.tuple #[]) /\ ∃ ro1, PE w ro db D w1 ro1 := by
 obtain ⟨h1, h2, ro1, h3, h4⟩ := h
 exact ⟨h1, ro1, h2, h3, h4⟩
theorem PE.cell {w w1 : World} {ro ro1 : Nat -> Nat} {db : Nat} {D E : Dc} (h : PE w ro db D w1 ro1) {g o : Nat} {u : Value} (hg : ro1 g ≠ 0) (hd : PDoc (w1.setCell ⟨g, o, none⟩ u) ro1 db E) : PE w ro db E (w1.setCell ⟨g, o, none⟩ u) ro1 :=
 h.trans ⟨Turn.setCell (A := fun b => ro1 b ≠ 0) (Turn.refl _ _) (p := ⟨g, o, none⟩) hg _, hd, fun b hb => .inl hb⟩
theorem pmov_any (w : World) (ro : Nat -> Nat) (db : Nat) (D : Dc) (n a : Nat) (wh : Int) (hd : PDoc w ro db D) (hw : WF D) (hh : n < 18446744073709551616) (hal : a < 18446744073709551616) :
  Calls Tryz.prog 22 #[.pointer (some ⟨db, 0, none⟩), .int .u64 (n : Int), .int .i64 wh, .int .u64 (a : Int)] w (PPost w ro db (movD D n wh a).1 (movD D n wh a).2) := by
 have hv := hd.view
 have hpc := isPlace_any w wh a
 have HD : Hid (PDoc w ro db D) := hd
 cases hpl : isPlaceB wh a with
 | false =>
  have e1 : movD D n wh a = (D, 1) := by simp [movD, hpl]
  rw [e1]
  rw [hpl] at hpc
  clear hd hv
  go_enter Tryz.func22, Tryz.ntmps22
  go_wp2_with fail
  refine hpc.mono ?_
  rintro e w1 ⟨rfl, rfl⟩
  clear hpc
  go_wp2
  go_ret
  exact ppost_same HD.out (Below.refl _ _)
 | true =>
  rw [hpl] at hpc
  cases hs : sl D n with
  | none =>
   have e1 : movD D n wh a = (D, 8) := by simp [movD, hpl, hs]
   rw [e1]
   have hfd := find_none w _ db D n hv hw.fits hh (sl_none hs)
   clear hd hv hs
   go_enter Tryz.func22, Tryz.ntmps22
   go_wp2_with fail
   refine hpc.mono ?_
   rintro e w1 ⟨rfl, rfl⟩
   clear hpc
   go_wp2_with fail
   refine hfd.mono ?_
   rintro e w1' ⟨rfl, hb⟩
   have HB : Hid (Below w1.heap.size w1 w1') := hb
   clear hfd hb
   go_wp2
   go_ret
   exact ppost_same HD.out HB.out
  | some s =>
   obtain ⟨i, hai, hi, -, -⟩ := sl_live hs
   obtain ⟨sa, scap, ra, rcap, L, hpd⟩ := hd
   obtain ⟨g, q, rfl, -, -, -, hhd, -⟩ := hpd.slot hi
   have hfd := find_some w _ db D n i hv hw.fits hh hai g 0 scap hhd
   rw [Nat.zero_add] at hfd
   have hlv := fun W (hb : Below w.heap.size w W) => isLive_any W _ db D a (hv.below hb) hw.fits hal
   cases hla : liveB D a with
   | false =>
    have e1 : movD D n wh a = (D, 8) := by
     have h0 : a ≠ 0 := fun e => by simp [liveB, e] at hla
     have hn : sl D a = none := by
      cases h : sl D a with
      | none => rfl
      | some t =>
       obtain ⟨j, hj, _⟩ := sl_live h
       simp [liveB, hj] at hla
     have : (placeE D wh a).2 = 8 := by simp [placeE, h0, hn]
     simp [movD, hpl, hs, this]
    rw [e1]
    rw [hla] at hlv
    clear hpd hv hs hhd hai hi
    go_enter Tryz.func22, Tryz.ntmps22
    go_wp2_with fail
    refine hpc.mono ?_
    rintro e w1 ⟨rfl, rfl⟩
    clear hpc
    go_wp2_with fail
    refine hfd.mono ?_
    rintro e w2 ⟨rfl, hb⟩
    have HB2 : Hid (Below w1.heap.size w1 w2) := hb
    have hlv2 := hlv w2 hb
    clear hfd hb hlv
    go_wp2_with fail
    refine hlv2.mono ?_
    rintro e w3 ⟨rfl, hb⟩
    have HB3 : Hid (Below w1.heap.size w1 w3) := HB2.out.trans (hb.mono HB2.out.size)
    clear hlv2 hb HB2
    go_wp2
    go_ret
    exact ppost_same HD.out HB3.out
   | true =>
    rw [hla] at hlv
    have hlive : a = 0 \/ ∃ t, sl D a = some t := by
     unfold liveB at hla
     by_cases h0 : a = 0
     ·exact .inl h0
     ·right
      simp [h0] at hla
      obtain ⟨j, hj⟩ := Option.isSome_iff_exists.1 hla
      obtain ⟨t, h1, _⟩ := sl_of_at hj
      exact ⟨t, h1⟩
    have hls := fun W (hb : Below w.heap.size w W) z (hz : (ups D a).contains n = z) => lies_any W _ db D a n (hv.below hb) hw hlive z hz
    cases hup : (ups D a).contains n with
    | true =>
     have e1 : movD D n wh a = (D, 34) := by
      have h8 : (placeE D wh a).2 ≠ 8 := by
       unfold placeE
       split
       ·simp
       ·rename_i h0
        obtain ⟨t, ht⟩ := hlive.resolve_left h0
        rw [ht]
        simp only
        split
        ·split <;> simp
        ·simp
      unfold movD
      rw [if_neg (by simp [hpl]), hs]
      simp only
      rw [if_neg h8, if_pos hup]
     rw [e1]
     have hls' := fun W hb => hls W hb true hup
     clear hpd hv hs hhd hai hi hls
     go_enter Tryz.func22, Tryz.ntmps22
     go_wp2_with fail
     refine hpc.mono ?_
     rintro e w1 ⟨rfl, rfl⟩
     clear hpc
     go_wp2_with fail
     refine hfd.mono ?_
     rintro e w2 ⟨rfl, hb⟩
     have HB2 : Hid (Below w1.heap.size w1 w2) := hb
     have hlv2 := hlv w2 hb
     clear hfd hb hlv
     go_wp2_with fail
     refine hlv2.mono ?_
     rintro e w3 ⟨rfl, hb⟩
     have HB3 : Hid (Below w1.heap.size w1 w3) := HB2.out.trans (hb.mono HB2.out.size)
     clear hlv2 hb HB2
     have hl3 := hls' w3 HB3.out
     go_wp2_with fail
     refine hl3.mono ?_
     rintro e w4 ⟨rfl, hb⟩
     have HB4 : Hid (Below w1.heap.size w1 w4) := HB3.out.trans (hb.mono HB3.out.size)
     clear hl3 hb hls'
     go_wp2
     go_ret
     exact ppost_same HD.out HB4.out
    | false =>
     rw [movD_eq hw hpl hs hla hup]
     have hls' := fun W hb => hls W hb false hup
     obtain ⟨lv, hlv0⟩ := hw.lev
     have hwl : wh = 3 \/ wh = 4 -> ∃ t, sl D a = some t := fun h => by
      refine hlive.resolve_left (fun e => ?_)
      subst e
      rcases h with rfl | rfl <;> simp [isPlaceB] at hpl
     have hpp : arD D wh a = 0 \/ ∃ t, sl D (arD D wh a) = some t := by
      unfold arD
      split
      ·rename_i h
       obtain ⟨t, ht⟩ := hwl h
       have := (dep_par hlv0 ht).2
       simpa [par, ht] using this
      ·exact hlive
     have hal' : arD D wh a < 18446744073709551616 := by
      rcases hpp with e | ⟨t, ht⟩
      ·omega
      ·exact (hw.lt ht).1
     have har := fun W (hb : Below w.heap.size w W) => around_any W _ db D wh a (hv.below hb) hw.fits hal hwl
     have hht := fun W (hb : Below w.heap.size w W) => height_any D _ db lv hw hlv0 64 W n s (hv.below hb) hs (by have := (hlv0 n s hs).1; omega)
     have hh64 : hgt D n <= 64 := hgts_le D 64 n
     have hfi := fun W (hb : Below w.heap.size w W) => fits_any W _ db D (arD D wh a) (hgt D n) (hv.below hb) hw hpp (by omega) _ rfl
     by_cases hfe : fitsE D (arD D wh a) (hgt D n) = 0
     ·rw [if_pos hfe]
      have hun := fun W roW (h : PDoc W roW db D) => unlink_any W roW db D n s h hw hs
      obtain ⟨sE, hsE, -⟩ := sl_setL_into (p := s.parent) (l' := (lst D s.parent).take (idxH (lst D s.parent) n).toNat ++ (lst D s.parent).drop ((idxH (lst D s.parent) n).toNat + 1)) hs
      have hfE : Fits (outD D n s) := hw.fits.setL _ _
      have haE : atI (outD D n s).S n = some i := by
       obtain ⟨s1, _, h2⟩ := setL_at (p := s.parent) (l' := (lst D s.parent).take (idxH (lst D s.parent) n).toNat ++ (lst D s.parent).drop ((idxH (lst D s.parent) n).toNat + 1)) hai
       exact h2
      have hsE' : sl (outD D n s) n = some sE := hsE
      have hiE : (outD D n s).S[i]? = some sE := by
       obtain ⟨j, h1, h2⟩ := sl_some hsE'
       rw [haE] at h1
       cases h1
       exact h2
      obtain ⟨i9, ha9, hi9, e9⟩ := setPar_of (p := arD D wh a) hsE'
      have hfF : Fits (setPar (outD D n s) n (arD D wh a)) := by rw [e9]; exact hfE.setS hi9 rfl
      have hnup : n ∉ ups D a := by simpa using hup
      have hane : wh = 3 \/ wh = 4 -> a ≠ n := fun h e => by
       obtain ⟨t, ht⟩ := hwl h
       rw [ups_step hlv0 ht, e] at hnup
       simp at hnup
      have harF := arD_put (p := arD D wh a) hs hane
      have hlstE : ∀ q, lst (setPar (outD D n s) n (arD D wh a)) q = lst (outD D n s) q := fun q => lst_setPar hsE' q
      have hppF : arD D wh a = 0 \/ ∃ t, sl (setPar (outD D n s) n (arD D wh a)) (arD D wh a) = some t := hpp.imp id (fun ⟨t, ht⟩ => by
       obtain ⟨t1, h1, _⟩ := sl_setL_into (p := s.parent) (l' := (lst D s.parent).take (idxH (lst D s.parent) n).toNat ++ (lst D s.parent).drop ((idxH (lst D s.parent) n).toNat + 1)) ht
       rw [sl_setPar hsE']
       split
       ·exact ⟨_, rfl⟩
       ·exact ⟨t1, h1⟩)
      obtain ⟨k, hk, hkx, hkl⟩ := idxH_mem (hw.up n s hs)
      obtain ⟨hcut, hcnd⟩ := cut_facts (hw.nodup s.parent) hkx
      have hlE : ∀ q, lst (outD D n s) q = if q = s.parent then (lst D s.parent).take k ++ (lst D s.parent).drop (k + 1) else lst D q := fun q => by
       unfold outD
       rw [hk, Int.toNat_natCast]
       by_cases e : q = s.parent
       ·rw [if_pos e, e, lst_setL_eq (dep_par hlv0 hs).2]
       ·rw [if_neg e, lst_setL_ne e]
      have hllF : (lst (setPar (outD D n s) n (arD D wh a)) (arD D wh a)).length <= 4096 := by
       rw [hlstE, hlE]
       have h1 := lst_len hw (dep_par hlv0 hs).2
       have h2 := lst_len hw hpp
       split
       ·simp; omega
       ·exact h2
      have hwhF : wh = 1 \/ wh = 2 \/ ((wh = 3 \/ wh = 4) /\ a ∈ lst (setPar (outD D n s) n (arD D wh a)) (arD D wh a) /\ ∃ t, sl (setPar (outD D n s) n (arD D wh a)) a = some t) := by
       have hpl' : wh = 1 \/ wh = 2 \/ ((wh = 3 \/ wh = 4) /\ a ≠ 0) := by simpa [isPlaceB] using hpl
       rcases hpl' with h | h | ⟨h, _⟩
       ·exact .inl h
       ·exact .inr (.inl h)
       ·obtain ⟨t, ht⟩ := hwl h
        have hm : a ∈ lst D (arD D wh a) := by
         unfold arD
         rw [if_pos h]
         simpa [par, ht] using hw.up a t ht
        refine .inr (.inr ⟨h, ?_, ?_⟩)
        ·rw [hlstE, hlE]
         split
         ·rename_i e
          rw [hcut]
          exact ⟨by rw [<- e]; exact hm, hane h⟩
         ·exact hm
        ·obtain ⟨t1, h1, _⟩ := sl_setL_into (p := s.parent) (l' := (lst D s.parent).take (idxH (lst D s.parent) n).toNat ++ (lst D s.parent).drop ((idxH (lst D s.parent) n).toNat + 1)) ht
         exact ⟨t1, by rw [sl_setPar hsE', if_neg (hane h)]; exact h1⟩
      have hlk := fun W roW (h : PDoc W roW db (setPar (outD D n s) n (arD D wh a))) => link_any W roW db (setPar (outD D n s) n (arD D wh a)) n a (arD D wh a) wh h hfF hal hal' hppF hllF (by rw [harF]) hwhF
      have hfin : setL (setPar (outD D n s) n (arD D wh a)) (arD D wh a) (ins (lst (setPar (outD D n s) n (arD D wh a)) (arD D wh a)) (whereN (lst (setPar (outD D n s) n (arD D wh a)) (arD D wh a)) wh a) n) = putD (outD D n s) n (arD D wh a) wh a := by
       rw [setL_setPar hsE', hlstE]
       rfl
      rw [hfin] at hlk
      rw [hfe] at hfi
      have hpar := fun W roW (h : PDoc W roW db (outD D n s)) => h.parent (p := arD D wh a) hsE' haE hiE
      have hfd2 := fun W roW (h : PDoc W roW db (outD D n s)) g scap hc => find_some W _ db (outD D n s) n i h.view hfE hh haE g 0 scap hc
      generalize putD (outD D n s) n (arD D wh a) wh a = R at *
      generalize setPar (outD D n s) n (arD D wh a) = F at *
      generalize outD D n s = E at *
      generalize arD D wh a = p at *
      generalize hgt D n = ht at *
      clear hpd hv hs hhd hai hi hls hpp hwl hlive hlv0 hup hla hpl hfe hsE hfE haE hsE' hiE ha9 hi9 e9 hfF hnup hane harF hlstE hppF hk hkx hkl hcut hcnd hlE hllF hwhF hfin
      have HUN : Hid (∀ W roW, PDoc W roW db D -> Calls Tryz.prog 52 #[.pointer (some ⟨db, 0, none⟩), .int .u64 (n : Int)] W (LinkP W roW db E)) := hun
      have HLK : Hid (∀ W roW, PDoc W roW db F -> Calls Tryz.prog 48 #[.pointer (some ⟨db, 0, none⟩), .int .u64 (n : Int), .int .i64 wh, .int .u64 (a : Int)] W (LinkP W roW db R)) := hlk
      clear hun hlk
      go_enter Tryz.func22, Tryz.ntmps22
      go_wp2_with fail
      refine hpc.mono ?_
      rintro e w1 ⟨rfl, rfl⟩
      clear hpc
      go_wp2_with fail
      refine hfd.mono ?_
      rintro e w2 ⟨rfl, hb⟩
      have HB2 : Hid (Below w1.heap.size w1 w2) := hb
      have hlv2 := hlv w2 hb
      clear hfd hb hlv
      go_wp2_with fail
      refine hlv2.mono ?_
      rintro e w3 ⟨rfl, hb⟩
      have HB3 : Hid (Below w1.heap.size w1 w3) := HB2.out.trans (hb.mono HB2.out.size)
      clear hlv2 hb HB2
      have hl3 := hls' w3 HB3.out
      go_wp2_with fail
      refine hl3.mono ?_
      rintro e w4 ⟨rfl, hb⟩
      have HB4 : Hid (Below w1.heap.size w1 w4) := HB3.out.trans (hb.mono HB3.out.size)
      have har4 := har w4 HB4.out
      clear hl3 hb hls' har HB3
      go_wp2_with fail
      refine har4.mono ?_
      rintro e w5 ⟨rfl, hb⟩
      have HB5 : Hid (Below w1.heap.size w1 w5) := HB4.out.trans (hb.mono HB4.out.size)
      have hht5 := hht w5 HB5.out
      clear har4 hb hht HB4
      go_wp2_with fail
      refine hht5.mono ?_
      rintro e w6 ⟨rfl, hb⟩
      have HB6 : Hid (Below w1.heap.size w1 w6) := HB5.out.trans (hb.mono HB5.out.size)
      have hfi6 := hfi w6 HB6.out
      clear hht5 hb hfi HB5
      go_wp2_with fail
      refine hfi6.mono ?_
      rintro e w7 ⟨rfl, hb⟩
      have P7 := PE.refl HD.out (HB6.out.trans (hb.mono HB6.out.size))
      clear hfi6 hb HB6
      have hun7 := HUN.out w7 _ P7.doc
      have HP7 : Hid (PE w1 ro db D w7 ro) := P7
      clear P7
      go_wp2_with fail
      refine hun7.mono ?_
      rintro e w8 h8
      obtain ⟨rfl, ro8, p8⟩ := h8.pe
      have P8 := HP7.out.trans p8
      obtain ⟨g8, sc8, hc8, hr8, hl8, hW8⟩ := hpar w8 ro8 P8.doc
      have hf8 := hfd2 w8 ro8 P8.doc g8 sc8 hc8
      rw [Nat.zero_add] at hf8
      have HP8 : Hid (PE w1 ro db E w8 ro8) := P8
      clear hun7 h8 p8 P8 HP7 hpar hfd2 hc8
      go_wp2_with fail
      refine hf8.mono ?_
      rintro e w9 ⟨rfl, hb⟩
      obtain ⟨⟨u9, c9⟩, f9, d9⟩ := hW8 w9 hb
      have P9 := (HP8.out.below hb).cell (o := i * 8 + 6) (u := .int .u64 (p : Int)) hr8 d9
      have HP9 : Hid (PE w1 ro db F (w9.setCell ⟨g8, i * 8 + 6, none⟩ (.int .u64 (p : Int))) ro8) := P9
      have hlk9 := HLK.out _ _ P9.doc
      clear hf8 hb hW8 d9 P9 HP8
      go_wp2_with fail
      refine hlk9.mono ?_
      rintro e w10 h10
      obtain ⟨rfl, ro10, p10⟩ := h10.pe
      have HP10 : Hid (PE w1 ro db R w10 ro10) := HP9.out.trans p10
      clear hlk9 h10 p10 HP9
      go_wp2
      go_ret
      exact HP10.out.post
     ·rw [if_neg hfe]
      have hz1 : decide (fitsE D (arD D wh a) (hgt D n) = 0) = false := by simpa using hfe
      generalize fitsE D (arD D wh a) (hgt D n) = z at *
      generalize arD D wh a = p at *
      generalize hgt D n = ht at *
      have hz2 : ¬ (z = 0) := hfe
      clear hpd hv hs hhd hai hi hls hpp hwl hlive hlv0 hup hla hpl
      go_enter Tryz.func22, Tryz.ntmps22
      go_wp2_with fail
      refine hpc.mono ?_
      rintro e w1 ⟨rfl, rfl⟩
      clear hpc
      go_wp2_with fail
      refine hfd.mono ?_
      rintro e w2 ⟨rfl, hb⟩
      have HB2 : Hid (Below w1.heap.size w1 w2) := hb
      have hlv2 := hlv w2 hb
      clear hfd hb hlv
      go_wp2_with fail
      refine hlv2.mono ?_
      rintro e w3 ⟨rfl, hb⟩
      have HB3 : Hid (Below w1.heap.size w1 w3) := HB2.out.trans (hb.mono HB2.out.size)
      clear hlv2 hb HB2
      have hl3 := hls' w3 HB3.out
      go_wp2_with fail
      refine hl3.mono ?_
      rintro e w4 ⟨rfl, hb⟩
      have HB4 : Hid (Below w1.heap.size w1 w4) := HB3.out.trans (hb.mono HB3.out.size)
      have har4 := har w4 HB4.out
      clear hl3 hb hls' har HB3
      go_wp2_with fail
      refine har4.mono ?_
      rintro e w5 ⟨rfl, hb⟩
      have HB5 : Hid (Below w1.heap.size w1 w5) := HB4.out.trans (hb.mono HB4.out.size)
      have hht5 := hht w5 HB5.out
      clear har4 hb hht HB4
      go_wp2_with fail
      refine hht5.mono ?_
      rintro e w6 ⟨rfl, hb⟩
      have HB6 : Hid (Below w1.heap.size w1 w6) := HB5.out.trans (hb.mono HB5.out.size)
      have hfi6 := hfi w6 HB6.out
      clear hht5 hb hfi HB5
      go_wp2_with fail
      refine hfi6.mono ?_
      rintro e w7 ⟨rfl, hb⟩
      have HB7 : Hid (Below w1.heap.size w1 w7) := HB6.out.trans (hb.mono HB6.out.size)
      clear hfi6 hb HB6
      go_wp2
      go_ret
      exact ppost_same HD.out HB7.out
end Go.Proofs.YtmapmkogjhinmaaGreat
