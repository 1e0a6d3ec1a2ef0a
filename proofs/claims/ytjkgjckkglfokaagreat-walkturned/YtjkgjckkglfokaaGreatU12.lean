/- What every document keeps, kept: a slot's own words changed. -/
import Derived.Test.YtjkgjckkglfokaaGreatU11
namespace Go.Proofs.YtjkgjckkglfokaaGreat.Gr
open Go.RowKit
set_option linter.unusedVariables false
set_option linter.unusedSimpArgs false
def setS (D : Dc) (i : Nat) (s' : Sl) : Dc := { D with S := D.S.set i s' }
theorem sl_setS {D : Dc} {i : Nat} {s s' : Sl} (hs : D.S[i]? = some s) (hl : s'.live = s.live) (hg : s'.gen = s.gen) (h : Nat) : sl (setS D i s') h = if atI D.S h = some i then some s' else sl D h := by
 have h1 := atI_set_same (h := h) (j := 0) hs hl hg
 unfold sl setS
 simp only [h1]
 cases ha : atI D.S h with
 | none => simp
 | some j =>
  simp only [Option.bind_some, Option.some.injEq]
  by_cases e : j = i
  ·subst e
   rw [if_pos rfl, List.getElem?_set_self (List.getElem?_eq_some_iff.1 hs).1]
  ·rw [if_neg e, List.getElem?_set_ne (Ne.symm e)]
theorem sl_setS_some {D : Dc} {i : Nat} {s s' : Sl} (hs : D.S[i]? = some s) (hl : s'.live = s.live) (hg : s'.gen = s.gen) (hp : s'.parent = s.parent) (hk : s'.kids = s.kids) {h : Nat} {t : Sl} (ht : sl (setS D i s') h = some t) : ∃ t0, sl D h = some t0 /\ t.parent = t0.parent /\ t.kids = t0.kids := by
 rw [sl_setS hs hl hg] at ht
 by_cases e : atI D.S h = some i
 ·rw [if_pos e] at ht
  cases ht
  exact ⟨s, by simp [sl, e, hs], hp, hk⟩
 ·rw [if_neg e] at ht
  exact ⟨t, ht, rfl, rfl⟩
theorem sl_setS_to {D : Dc} {i : Nat} {s s' : Sl} (hs : D.S[i]? = some s) (hl : s'.live = s.live) (hg : s'.gen = s.gen) (hp : s'.parent = s.parent) (hk : s'.kids = s.kids) {h : Nat} {t : Sl} (ht : sl D h = some t) : ∃ t', sl (setS D i s') h = some t' /\ t'.parent = t.parent /\ t'.kids = t.kids := by
 rw [sl_setS hs hl hg]
 by_cases e : atI D.S h = some i
 ·rw [if_pos e]
  have : sl D h = some s := by simp [sl, e, hs]
  rw [this] at ht
  cases ht
  exact ⟨s', rfl, hp, hk⟩
 ·rw [if_neg e]
  exact ⟨t, ht, rfl, rfl⟩
theorem lst_setS {D : Dc} {i : Nat} {s s' : Sl} (hs : D.S[i]? = some s) (hl : s'.live = s.live) (hg : s'.gen = s.gen) (hp : s'.parent = s.parent) (hk : s'.kids = s.kids) (p : Nat) : lst (setS D i s') p = lst D p := by
 unfold lst
 by_cases h0 : p = 0
 ·rw [if_pos h0, if_pos h0]; rfl
 ·rw [if_neg h0, if_neg h0]
  cases hd : sl D p with
  | none =>
   cases hd' : sl (setS D i s') p with
   | none => rfl
   | some t =>
    obtain ⟨t0, h1, _⟩ := sl_setS_some hs hl hg hp hk hd'
    rw [hd] at h1
    cases h1
  | some t =>
   obtain ⟨t', h1, _, h2⟩ := sl_setS_to hs hl hg hp hk hd
   rw [h1]
   exact h2
theorem WF.setS {D : Dc} (hw : WF D) {i : Nat} {s s' : Sl} (hs : D.S[i]? = some s) (hlv : s.live = true) (hl : s'.live = s.live) (hg : s'.gen = s.gen) (hp : s'.parent = s.parent) (hk : s'.kids = s.kids) (ho : ownE (ndOf s') = 0) (hu : (s'.kind = 2 -> s'.kids = [] /\ s'.name = ⟨#[]⟩ /\ s'.attrs = []) /\ (s'.kind = 1 -> s'.text = ⟨#[]⟩)) : WF (setS D i s') := by
 have hget : ∀ (j : Nat) (t : Sl), (Gr.setS D i s').S[j]? = some t -> (j = i /\ t = s') \/ D.S[j]? = some t := fun j t ht => by
  have ht' : (D.S.set i s')[j]? = some t := ht
  by_cases e : i = j
  ·subst e
   rw [List.getElem?_set_self (List.getElem?_eq_some_iff.1 hs).1] at ht'
   cases ht'
   exact .inl ⟨rfl, rfl⟩
  ·rw [List.getElem?_set_ne e] at ht'
   exact .inr ht'
 refine ⟨⟨by show (D.S.set i s').length <= 4096; simpa using hw.fits.len, fun j t ht => ?_⟩, fun j t ht => ?_, fun j t ht hd => ?_, fun j t ht hd => ?_, fun j t ht hd => ?_, ?_, fun h t ht => ?_, fun p hp' h hh => ?_, fun p => ?_⟩
 ·rcases hget j t ht with ⟨_, rfl⟩ | h
  ·rw [hg]; exact hw.fits.gen i s hs
  ·exact hw.fits.gen j t h
 ·rcases hget j t ht with ⟨_, rfl⟩ | h
  ·rw [hg]; exact hw.gen1 i s hs
  ·exact hw.gen1 j t h
 ·rcases hget j t ht with ⟨_, rfl⟩ | h
  ·rw [hl, hlv] at hd; cases hd
  ·exact hw.dead j t h hd
 ·rcases hget j t ht with ⟨_, rfl⟩ | h
  ·exact ho
  ·exact hw.own j t h hd
 ·rcases hget j t ht with ⟨_, rfl⟩ | h
  ·exact hu
  ·exact hw.used j t h hd
 ·obtain ⟨lv, hlev⟩ := hw.lev
  refine ⟨lv, fun h t ht => ?_⟩
  obtain ⟨t0, h1, h2, _⟩ := sl_setS_some hs hl hg hp hk ht
  obtain ⟨g1, g2⟩ := hlev h t0 h1
  refine ⟨g1, ?_⟩
  rw [h2]
  rcases g2 with g2 | ⟨q, g2, g3⟩
  ·exact .inl g2
  ·obtain ⟨q', e1, _⟩ := sl_setS_to hs hl hg hp hk g2
   exact .inr ⟨q', e1, g3⟩
 ·obtain ⟨t0, h1, h2, _⟩ := sl_setS_some hs hl hg hp hk ht
  rw [h2, lst_setS hs hl hg hp hk]
  exact hw.up h t0 h1
 ·rw [lst_setS hs hl hg hp hk] at hh
  have hp0 : p = 0 \/ ∃ q, sl D p = some q := by
   rcases hp' with h0 | ⟨q, hq⟩
   ·exact .inl h0
   ·obtain ⟨t0, h1, _⟩ := sl_setS_some hs hl hg hp hk hq
    exact .inr ⟨t0, h1⟩
  obtain ⟨t, h1, h2⟩ := hw.down p hp0 h hh
  obtain ⟨t', e1, e2, _⟩ := sl_setS_to hs hl hg hp hk h1
  exact ⟨t', e1, e2.trans h2⟩
 ·rw [lst_setS hs hl hg hp hk]
  exact hw.nodup p
theorem WF.setName {D : Dc} (hw : WF D) (h : Nat) (nm : ByteArray) : WF (setNameD D h nm).1 := by
 unfold setNameD
 split
 ·exact hw
 ·rename_i i ha
  split
  ·exact hw
  ·rename_i s hs
   split
   ·rename_i hk
    split
    ·rename_i hn
     obtain ⟨s0, hs0, hlv, _⟩ := atI_some ha
     rw [hs] at hs0
     cases hs0
     have ho := hw.own i s hs hlv
     refine WF.setS hw (s' := { s with name := nm }) hs hlv rfl rfl rfl rfl ?_ ⟨fun h2 => ?_, fun h1 => (hw.used i s hs hlv).2 hk⟩
     ·unfold ownE ndOf at ho ⊢
      simp only [hk, if_true, hn] at ho ⊢
      split at ho
      ·exact ho
      ·omega
     ·have h2' : s.kind = 2 := h2
      omega
    ·exact hw
   ·exact hw
theorem WF.setText {D : Dc} (hw : WF D) (h : Nat) (tx : ByteArray) : WF (setTextD D h tx).1 := by
 unfold setTextD
 split
 ·exact hw
 ·rename_i i ha
  split
  ·exact hw
  ·rename_i s hs
   split
   ·rename_i hk
    split
    ·rename_i hn
     obtain ⟨s0, hs0, hlv, _⟩ := atI_some ha
     rw [hs] at hs0
     cases hs0
     refine WF.setS hw (s' := { s with text := tx }) hs hlv rfl rfl rfl rfl ?_ ⟨fun h2 => (hw.used i s hs hlv).1 hk, fun h1 => ?_⟩
     ·unfold ownE ndOf
      simp only [hk]
      simpa using hn
     ·have h1' : s.kind = 1 := h1
      omega
    ·exact hw
   ·exact hw
end Go.Proofs.YtjkgjckkglfokaaGreat.Gr
/- What every document keeps, kept: a node deleted. -/
namespace Go.Proofs.YtjkgjckkglfokaaGreat.Gr
open Go.RowKit
set_option linter.unusedVariables false
set_option linter.unusedSimpArgs false
theorem sl_killD (E : Dc) (x y : Nat) : sl (killD E x) y = if y = x then none else sl E y := by
 cases ha : atI E.S x with
 | none =>
  have e : killD E x = E := by simp only [killD, ha]
  rw [e]
  by_cases hy : y = x
  ·rw [if_pos hy, hy]; simp [sl, ha]
  ·rw [if_neg hy]
 | some i =>
  obtain ⟨s, hs, hl, hg, hi, h0, hx⟩ := atI_some ha
  rw [kill_at ha hs]
  have hil := (List.getElem?_eq_some_iff.1 hs).1
  by_cases hj : y % 4294967296 = i + 1
  ·have e1 : atI (E.S.set i (zeroSl s.gen)) y = none := by
    unfold atI
    rw [if_neg (by omega), hj, show i + 1 - 1 = i from rfl, List.getElem?_set_self hil]
    simp [zeroSl]
   have e2 : sl ({ E with S := E.S.set i (zeroSl s.gen) } : Dc) y = none := by simp [sl, e1]
   rw [e2]
   by_cases hy : y = x
   ·rw [if_pos hy]
   ·rw [if_neg hy]
    have : atI E.S y = none := by
     cases hay : atI E.S y with
     | none => rfl
     | some j =>
      obtain ⟨t, ht, _, _, hjj, _, hyy⟩ := atI_some hay
      have : j = i := by omega
      subst this
      rw [hs] at ht
      cases ht
      exact absurd (hyy.trans hx.symm) hy
    simp [sl, this]
  ·have hy : y ≠ x := by rintro rfl; omega
   rw [if_neg hy]
   have e1 : atI (E.S.set i (zeroSl s.gen)) y = atI E.S y := by
    unfold atI
    by_cases hz : y % 4294967296 = 0
    ·rw [if_pos hz, if_pos hz]
    ·rw [if_neg hz, if_neg hz, List.getElem?_set_ne (by omega)]
   simp only [sl, e1]
   cases hay : atI E.S y with
   | none => rfl
   | some j =>
    obtain ⟨t, ht, _, _, hjj, _, _⟩ := atI_some hay
    simp only [Option.bind_some]
    rw [List.getElem?_set_ne (by omega)]
theorem sl_killA : ∀ (l : List Nat) (E : Dc) (y : Nat), sl (killA E l) y = if y ∈ l then none else sl E y
 | [], E, y => by simp [killA]
 | a :: r, E, y => by
  show sl (killA (killD E a) r) y = _
  rw [sl_killA r, sl_killD]
  by_cases h1 : y ∈ r
  ·simp [h1]
  ·by_cases h2 : y = a
   ·simp [h2]
   ·simp [h1, h2]
theorem roots_killD (E : Dc) (x : Nat) : (killD E x).roots = E.roots := by
 unfold killD
 split
 ·rfl
 ·split <;> rfl
theorem roots_killA : ∀ (l : List Nat) (E : Dc), (killA E l).roots = E.roots
 | [], _ => rfl
 | a :: r, E => (roots_killA r (killD E a)).trans (roots_killD E a)
theorem slots_killA : ∀ (l : List Nat) (E : Dc), (killA E l).S.length = E.S.length /\ ∀ (j : Nat) (t : Sl), (killA E l).S[j]? = some t -> ∃ t0, E.S[j]? = some t0 /\ t.gen = t0.gen /\ (t = t0 \/ t = zeroSl t0.gen)
 | [], E => ⟨rfl, fun j t ht => ⟨t, ht, rfl, .inl rfl⟩⟩
 | a :: r, E => by
  obtain ⟨h1, h2⟩ := slots_killA r (killD E a)
  have key : (killD E a).S.length = E.S.length /\ ∀ (j : Nat) (t : Sl), (killD E a).S[j]? = some t -> ∃ t0, E.S[j]? = some t0 /\ t.gen = t0.gen /\ (t = t0 \/ t = zeroSl t0.gen) := by
   cases ha : atI E.S a with
   | none =>
    have e : killD E a = E := by simp only [killD, ha]
    rw [e]
    exact ⟨rfl, fun j t ht => ⟨t, ht, rfl, .inl rfl⟩⟩
   | some i =>
    obtain ⟨s, hs, _⟩ := atI_some ha
    rw [kill_at ha hs]
    refine ⟨by simp, fun j t ht => ?_⟩
    have ht' : (E.S.set i (zeroSl s.gen))[j]? = some t := ht
    by_cases e : i = j
    ·subst e
     rw [List.getElem?_set_self (List.getElem?_eq_some_iff.1 hs).1] at ht'
     cases ht'
     exact ⟨s, hs, rfl, .inr rfl⟩
    ·rw [List.getElem?_set_ne e] at ht'
     exact ⟨t, ht', rfl, .inl rfl⟩
  refine ⟨h1.trans key.1, fun j t ht => ?_⟩
  obtain ⟨t1, g1, g2, g3⟩ := h2 j t ht
  obtain ⟨t0, k1, k2, k3⟩ := key.2 j t1 g1
  refine ⟨t0, k1, g2.trans k2, ?_⟩
  rcases g3 with rfl | rfl
  ·exact k3
  ·exact .inr (by rw [k2])
theorem allH_kid {D : Dc} (hw : WF D) {lv : Nat -> Nat} (hl : Lev D lv) : ∀ (m h : Nat) (s : Sl), sl D h = some s -> 64 - lv h <= m -> ∀ x ∈ allH D h, (∀ c ∈ lst D x, c ∈ allH D h) /\ (x ≠ h -> par D x ∈ allH D h)
 | 0, h, s, e, hm => by have := (hl h s e).1; omega
 | m + 1, h, s, e, hm => by
  intro x hx
  rw [allH_step hw e] at hx ⊢
  rcases List.mem_cons.1 hx with rfl | hx
  ·refine ⟨fun c hc => ?_, fun hne => absurd rfl hne⟩
   obtain ⟨s', h1, _, _⟩ := hw.kid hl e hc
   exact List.mem_cons_of_mem _ (List.mem_flatMap.2 ⟨c, hc, by rw [allH_step hw h1]; simp⟩)
  ·obtain ⟨c, hc, hxc⟩ := List.mem_flatMap.1 hx
   obtain ⟨s', h1, hpar, h2⟩ := hw.kid hl e hc
   obtain ⟨i1, i2⟩ := allH_kid hw hl m c s' h1 (by omega) x hxc
   refine ⟨fun d hd => List.mem_cons_of_mem _ (List.mem_flatMap.2 ⟨c, hc, i1 d hd⟩), fun _ => ?_⟩
   by_cases hxe : x = c
   ·subst hxe
    have : par D x = h := by simp [par, h1, hpar]
    rw [this]
    simp
   ·exact List.mem_cons_of_mem _ (List.mem_flatMap.2 ⟨c, hc, i2 hxe⟩)
end Go.Proofs.YtjkgjckkglfokaaGreat.Gr
/- What every document keeps, kept: Delete. -/
namespace Go.Proofs.YtjkgjckkglfokaaGreat.Gr
open Go.RowKit
set_option linter.unusedVariables false
set_option linter.unusedSimpArgs false
theorem slots_setL {D : Dc} {p : Nat} {l' : List Nat} : (setL D p l').S.length = D.S.length /\ ∀ (j : Nat) (t : Sl), (setL D p l').S[j]? = some t -> ∃ t1, D.S[j]? = some t1 /\ (t = t1 \/ (sl D p = some t1 /\ p ≠ 0 /\ t = { t1 with kids := l' })) := by
 by_cases h0 : p = 0
 ·subst h0; rw [setL_zero]; exact ⟨rfl, fun j t ht => ⟨t, ht, .inl rfl⟩⟩
 ·cases ha : atI D.S p with
  | none =>
   have e : setL D p l' = D := by simp only [setL, if_neg h0, ha]
   rw [e]
   exact ⟨rfl, fun j t ht => ⟨t, ht, .inl rfl⟩⟩
  | some i =>
   obtain ⟨s, hs, _⟩ := atI_some ha
   rw [setL_some h0 ha hs]
   refine ⟨by simp, fun j t ht => ?_⟩
   have ht' : (D.S.set i { s with kids := l' })[j]? = some t := ht
   by_cases e : i = j
   ·subst e
    rw [List.getElem?_set_self (List.getElem?_eq_some_iff.1 hs).1] at ht'
    cases ht'
    exact ⟨s, hs, .inr ⟨by simp [sl, ha, hs], h0, rfl⟩⟩
   ·rw [List.getElem?_set_ne e] at ht'
    exact ⟨t, ht', .inl rfl⟩
theorem sl_setL_from {D : Dc} {p x : Nat} {l' : List Nat} {t : Sl} (h : sl (setL D p l') x = some t) : ∃ t0, sl D x = some t0 /\ t.parent = t0.parent := by
 by_cases e : x = p
 ·subst e
  cases hd : sl D x with
  | none =>
   by_cases h0 : x = 0
   ·rw [h0, setL_zero] at h
    have : sl D 0 = some t := h
    rw [sl_zero] at this; cases this
   ·have e2 : setL D x l' = D := by simp only [setL, if_neg h0, sl_none hd]
    rw [e2, hd] at h; cases h
  | some t0 =>
   rw [sl_setL_eq hd] at h
   cases h
   exact ⟨t0, rfl, rfl⟩
 ·rw [sl_setL_ne e] at h
  exact ⟨t, h, rfl⟩
theorem sl_setL_into {D : Dc} {p x : Nat} {l' : List Nat} {t0 : Sl} (h : sl D x = some t0) : ∃ t, sl (setL D p l') x = some t /\ t.parent = t0.parent := by
 by_cases e : x = p
 ·subst e
  exact ⟨_, sl_setL_eq h, rfl⟩
 ·exact ⟨t0, by rw [sl_setL_ne e]; exact h, rfl⟩
theorem lst_killA (E : Dc) (l : List Nat) (p : Nat) : lst (killA E l) p = if p = 0 then E.roots else if p ∈ l then [] else lst E p := by
 unfold lst
 by_cases h0 : p = 0
 ·rw [if_pos h0, if_pos h0, roots_killA]
 ·rw [if_neg h0, if_neg h0, if_neg h0, sl_killA]
  by_cases h1 : p ∈ l
  ·rw [if_pos h1, if_pos h1]
  ·rw [if_neg h1, if_neg h1]
theorem WF.del {D : Dc} (hw : WF D) (h : Nat) : WF (delD D h).1 := by
 unfold delD
 split
 ·exact hw
 ·rename_i s hs
  obtain ⟨lv, hl⟩ := hw.lev
  obtain ⟨k, hk, hkx, hkl⟩ := idxH_mem (hw.up h s hs)
  rw [hk, Int.toNat_natCast]
  have hsp := (dep_par hl hs).2
  have hclo := allH_kid hw hl 64 h s hs (by omega)
  have hlive := allH_live hw hs
  have hself : h ∈ allH D h := by rw [allH_step hw hs]; simp
  have hnod := hw.nodup s.parent
  have hspl : s.parent ≠ 0 -> ∀ t1, sl D s.parent = some t1 -> t1.kids ≠ [] := fun h0 t1 ht1 he => by
   have := hw.up h s hs
   rw [lst, if_neg h0, ht1] at this
   simp only [he] at this
   simp at this
  have hsub : ∀ x, x ∈ (lst D s.parent).take k ++ (lst D s.parent).drop (k + 1) -> x ∈ lst D s.parent /\ x ≠ h := fun x hx => by
   rw [List.mem_append] at hx
   have hxm : x ∈ lst D s.parent := by
    rcases hx with hx | hx
    ·exact List.mem_of_mem_take hx
    ·exact List.mem_of_mem_drop hx
   refine ⟨hxm, ?_⟩
   rintro rfl
   rcases hx with hx | hx
   ·exact not_mem_take hnod hkx hx
   ·obtain ⟨j, hj⟩ := List.getElem?_of_mem hx
    rw [List.getElem?_drop] at hj
    have := (List.getElem?_inj (List.getElem?_eq_some_iff.1 hj).1 hnod).1 (hj.trans hkx.symm)
    omega
  have hcut : ∀ x ∈ lst D s.parent, x ≠ h -> x ∈ (lst D s.parent).take k ++ (lst D s.parent).drop (k + 1) := fun x hx hne => mem_cut hkx hx hne
  have hnd2 : ((lst D s.parent).take k ++ (lst D s.parent).drop (k + 1)).Nodup := by
   have hsl : List.Sublist ((lst D s.parent).take k ++ (lst D s.parent).drop (k + 1)) (lst D s.parent) := by
    have h1 : List.Sublist ((lst D s.parent).drop (k + 1)) ((lst D s.parent).drop k) := by
     rw [<- List.drop_drop]
     exact List.drop_sublist 1 _
    have h2 := List.Sublist.append (List.Sublist.refl ((lst D s.parent).take k)) h1
    rwa [List.take_append_drop] at h2
   exact List.Sublist.nodup hsl hnod
  generalize hl' : (lst D s.parent).take k ++ (lst D s.parent).drop (k + 1) = l' at *
  have hlE : ∀ q, lst (setL D s.parent l') q = if q = s.parent then l' else lst D q := fun q => by
   by_cases e : q = s.parent
   ·rw [if_pos e, e, lst_setL_eq hsp]
   ·rw [if_neg e, lst_setL_ne e]
  have hrE : (setL D s.parent l').roots = lst (setL D s.parent l') 0 := by simp [lst]
  obtain ⟨c1, c2⟩ := slots_killA (allH D h) (setL D s.parent l')
  obtain ⟨d1, d2⟩ := slots_setL (D := D) (p := s.parent) (l' := l')
  have hS : ∀ (j : Nat) (t : Sl), (killA (setL D s.parent l') (allH D h)).S[j]? = some t -> ∃ t1, D.S[j]? = some t1 /\ t.gen = t1.gen /\ (t = zeroSl t1.gen \/ t = t1 \/ (sl D s.parent = some t1 /\ s.parent ≠ 0 /\ t = { t1 with kids := l' })) := fun j t ht => by
   obtain ⟨t0, g1, g2, g3⟩ := c2 j t ht
   obtain ⟨t1, k1, k2⟩ := d2 j t0 g1
   have hg0 : t0.gen = t1.gen := by
    rcases k2 with rfl | ⟨_, _, rfl⟩ <;> rfl
   refine ⟨t1, k1, g2.trans hg0, ?_⟩
   rcases g3 with rfl | rfl
   ·exact .inr k2
   ·exact .inl (by rw [hg0])
  have hA0 : 0 ∉ allH D h := fun h0 => by
   obtain ⟨t, ht⟩ := hlive 0 h0
   rw [sl_zero] at ht; cases ht
  refine ⟨⟨by rw [c1, d1]; exact hw.fits.len, fun j t ht => ?_⟩, fun j t ht => ?_, fun j t ht hd => ?_, fun j t ht hd => ?_, fun j t ht hd => ?_, ⟨lv, fun x t ht => ?_⟩, fun x t ht => ?_, fun p hp x hx => ?_, fun p => ?_⟩
  ·obtain ⟨t1, k1, k2, _⟩ := hS j t ht
   rw [k2]; exact hw.fits.gen j t1 k1
  ·obtain ⟨t1, k1, k2, _⟩ := hS j t ht
   rw [k2]; exact hw.gen1 j t1 k1
  ·obtain ⟨t1, k1, k2, k3⟩ := hS j t ht
   rcases k3 with e | rfl | ⟨e1, _, e2⟩
   ·rw [e]; rfl
   ·exact hw.dead j t k1 hd
   ·obtain ⟨_, _, _, e3, _⟩ := sl_live e1
    rw [e2] at hd
    have : t1.live = false := hd
    rw [e3] at this; cases this
  ·obtain ⟨t1, k1, k2, k3⟩ := hS j t ht
   rcases k3 with e | rfl | ⟨e1, _, e2⟩
   ·rw [e] at hd; cases hd
   ·exact hw.own j t k1 hd
   ·rw [e2] at hd ⊢
    exact hw.own j t1 k1 hd
  ·obtain ⟨t1, k1, k2, k3⟩ := hS j t ht
   rcases k3 with e | rfl | ⟨e1, e0, e2⟩
   ·rw [e] at hd; cases hd
   ·exact hw.used j t k1 hd
   ·rw [e2] at hd ⊢
    have hu := hw.used j t1 k1 hd
    refine ⟨fun h2 => ?_, hu.2⟩
    exact absurd (hu.1 h2).1 (hspl e0 t1 e1)
  ·rw [sl_killA] at ht
   by_cases hxa : x ∈ allH D h
   ·rw [if_pos hxa] at ht; cases ht
   ·rw [if_neg hxa] at ht
    obtain ⟨t0, h1, h2⟩ := sl_setL_from ht
    obtain ⟨g1, g2⟩ := hl x t0 h1
    refine ⟨g1, ?_⟩
    rw [h2]
    rcases g2 with g2 | ⟨q, g2, g3⟩
    ·exact .inl g2
    ·obtain ⟨q', e1, _⟩ := sl_setL_into (p := s.parent) (l' := l') g2
     refine .inr ⟨q', ?_, g3⟩
     rw [sl_killA, if_neg (fun hpa => hxa ((hclo _ hpa).1 x (hw.up x t0 h1)))]
     exact e1
  ·rw [sl_killA] at ht
   by_cases hxa : x ∈ allH D h
   ·rw [if_pos hxa] at ht; cases ht
   ·rw [if_neg hxa] at ht
    obtain ⟨t0, h1, h2⟩ := sl_setL_from ht
    have hup := hw.up x t0 h1
    rw [h2, lst_killA]
    have hpa : t0.parent ∉ allH D h := fun hpa => hxa ((hclo _ hpa).1 x hup)
    have hE : x ∈ lst (setL D s.parent l') t0.parent := by
     rw [hlE]
     by_cases e : t0.parent = s.parent
     ·rw [if_pos e]
      exact hcut x (by rw [<- e]; exact hup) (fun e => hxa (e ▸ hself))
     ·rw [if_neg e]; exact hup
    by_cases h0 : t0.parent = 0
    ·rw [if_pos h0, hrE, <- h0]; exact hE
    ·rw [if_neg h0, if_neg hpa]; exact hE
  ·have hpa : p ∉ allH D h := by
    rcases hp with rfl | ⟨q, hq⟩
    ·exact hA0
    ·intro hpa
     rw [sl_killA, if_pos hpa] at hq; cases hq
   have hp0 : p = 0 \/ ∃ q, sl D p = some q := by
    rcases hp with h0 | ⟨q, hq⟩
    ·exact .inl h0
    ·rw [sl_killA, if_neg hpa] at hq
     obtain ⟨t0, h1, _⟩ := sl_setL_from hq
     exact .inr ⟨t0, h1⟩
   have hE : x ∈ lst (setL D s.parent l') p := by
    rw [lst_killA] at hx
    by_cases h0 : p = 0
    ·rw [if_pos h0, hrE] at hx; rw [h0]; exact hx
    ·rw [if_neg h0, if_neg hpa] at hx; exact hx
   rw [hlE] at hE
   have hxD : x ∈ lst D p /\ (p = s.parent -> x ≠ h) := by
    by_cases e : p = s.parent
    ·rw [if_pos e] at hE
     exact ⟨by rw [e]; exact (hsub x hE).1, fun _ => (hsub x hE).2⟩
    ·rw [if_neg e] at hE
     exact ⟨hE, fun e' => absurd e' e⟩
   obtain ⟨t0, h1, h2⟩ := hw.down p hp0 x hxD.1
   have hxa : x ∉ allH D h := fun hxa => by
    by_cases e : x = h
    ·subst e
     rw [hs] at h1
     cases h1
     exact hxD.2 h2.symm rfl
    ·have := (hclo x hxa).2 e
     have hpx : par D x = p := by simp [par, h1, h2]
     rw [hpx] at this
     exact hpa this
   obtain ⟨t, e1, e2⟩ := sl_setL_into (p := s.parent) (l' := l') h1
   exact ⟨t, by rw [sl_killA, if_neg hxa]; exact e1, e2.trans h2⟩
  ·have hEn : ∀ q, (lst (setL D s.parent l') q).Nodup := fun q => by
    rw [hlE]
    by_cases e : q = s.parent
    ·rw [if_pos e]; exact hnd2
    ·rw [if_neg e]; exact hw.nodup q
   rw [lst_killA]
   by_cases h0 : p = 0
   ·rw [if_pos h0, hrE]; exact hEn 0
   ·rw [if_neg h0]
    by_cases hpa : p ∈ allH D h
    ·rw [if_pos hpa]; exact List.nodup_nil
    ·rw [if_neg hpa]; exact hEn p
end Go.Proofs.YtjkgjckkglfokaaGreat.Gr
/- What every document keeps, kept: Move. -/
namespace Go.Proofs.YtjkgjckkglfokaaGreat.Gr
open Go.RowKit
set_option linter.unusedVariables false
set_option linter.unusedSimpArgs false
theorem setPar_of {D : Dc} {n p : Nat} {s : Sl} (hs : sl D n = some s) : ∃ i, atI D.S n = some i /\ D.S[i]? = some s /\ setPar D n p = setS D i { s with parent := p } := by
 obtain ⟨i, ha, hi⟩ := sl_some hs
 refine ⟨i, ha, hi, ?_⟩
 simp only [setPar, ha, hi, setS]
theorem at_same {D : Dc} {n x i : Nat} (ha : atI D.S n = some i) (hx : atI D.S x = some i) : x = n := by
 obtain ⟨s, h1, _, _, _, _, e1⟩ := atI_some ha
 obtain ⟨s', h2, _, _, _, _, e2⟩ := atI_some hx
 rw [h1] at h2
 cases h2
 rw [e1, e2]
theorem sl_setPar {D : Dc} {n p : Nat} {s : Sl} (hs : sl D n = some s) (x : Nat) : sl (setPar D n p) x = if x = n then some { s with parent := p } else sl D x := by
 obtain ⟨i, ha, hi, e⟩ := setPar_of (p := p) hs
 rw [e, sl_setS (s' := { s with parent := p }) hi rfl rfl]
 by_cases hx : x = n
 ·subst hx
  rw [if_pos ha, if_pos rfl]
 ·rw [if_neg (fun h => hx (at_same ha h)), if_neg hx]
theorem lst_setPar {D : Dc} {n p : Nat} {s : Sl} (hs : sl D n = some s) (q : Nat) : lst (setPar D n p) q = lst D q := by
 obtain ⟨i, ha, hi, e⟩ := setPar_of (p := p) hs
 unfold lst
 by_cases h0 : q = 0
 ·rw [if_pos h0, if_pos h0, e]
  rfl
 ·rw [if_neg h0, if_neg h0, sl_setPar hs]
  by_cases hq : q = n
  ·subst hq
   rw [if_pos rfl, hs]
  ·rw [if_neg hq]
theorem cut_facts {l : List Nat} {n k : Nat} (hnod : l.Nodup) (hkx : l[k]? = some n) :
  (∀ x, x ∈ l.take k ++ l.drop (k + 1) ↔ x ∈ l /\ x ≠ n) /\ (l.take k ++ l.drop (k + 1)).Nodup := by
 have hsl : List.Sublist (l.take k ++ l.drop (k + 1)) l := by
  have h1 : List.Sublist (l.drop (k + 1)) (l.drop k) := by
   rw [<- List.drop_drop]
   exact List.drop_sublist 1 _
  have h2 := List.Sublist.append (List.Sublist.refl (l.take k)) h1
  rwa [List.take_append_drop] at h2
 refine ⟨fun x => ⟨fun hx => ⟨hsl.subset hx, ?_⟩, fun hx => mem_cut hkx hx.1 hx.2⟩, List.Sublist.nodup hsl hnod⟩
 rintro rfl
 rw [List.mem_append] at hx
 rcases hx with hx | hx
 ·exact not_mem_take hnod hkx hx
 ·obtain ⟨j, hj⟩ := List.getElem?_of_mem hx
  rw [List.getElem?_drop] at hj
  have := (List.getElem?_inj (List.getElem?_eq_some_iff.1 hj).1 hnod).1 (hj.trans hkx.symm)
  omega
theorem ins_facts {l : List Nat} {n k : Nat} (hnod : l.Nodup) (hn : n ∉ l) : (∀ x, x ∈ ins l k n ↔ x = n \/ x ∈ l) /\ (ins l k n).Nodup := by
 have hp : (ins l k n).Perm (n :: l) := by
  unfold ins
  have h1 : (l.take k ++ [n] ++ l.drop k).Perm ([n] ++ l.take k ++ l.drop k) := List.Perm.append_right _ List.perm_append_comm
  have h2 : [n] ++ l.take k ++ l.drop k = n :: l := by simp
  rw [h2] at h1
  exact h1
 refine ⟨fun x => by rw [hp.mem_iff, List.mem_cons], ?_⟩
 rw [hp.nodup_iff, List.nodup_cons]
 exact ⟨hn, hnod⟩
theorem within_hgt {D : Dc} (hw : WF D) {lv : Nat -> Nat} (hl : Lev D lv) {n : Nat} {s : Sl} (hs : sl D n = some s) : ∀ (m x : Nat) (t : Sl), sl D x = some t -> lv x <= m -> n ∈ ups D x -> ∀ k, k = lv x - lv n -> k + hgt D x <= hgt D n
 | 0, x, t, hx, hm, hn, k, hk => by
  rw [ups_step hl hx] at hn
  rcases List.mem_cons.1 hn with e | hn
  ·subst e
   omega
  ·have h1 := dep_par hl hx
   rcases h1.2 with e | ⟨q, hq⟩
   ·rw [e, ups_zero] at hn; cases hn
   ·have := (hl x t hx).2
    rcases this with h | ⟨q', hq', h⟩
    ·rw [h.1, sl_zero] at hq; cases hq
    ·omega
 | m + 1, x, t, hx, hm, hn, k, hk => by
  have hnx := hn
  rw [ups_step hl hx] at hn
  rcases List.mem_cons.1 hn with e | hn
  ·subst e
   omega
  ·have h1 := dep_par hl hx
   rcases h1.2 with e | ⟨q, hq⟩
   ·rw [e, ups_zero] at hn; cases hn
   ·have hlv : lv x = lv t.parent + 1 := by
     rcases (hl x t hx).2 with h | ⟨q', hq', h⟩
     ·rw [h.1, sl_zero] at hq; cases hq
     ·exact h
    have hge := (ups_one hl (lv t.parent) t.parent q hq (Nat.le_refl _)).1 n hn
    have ih := within_hgt hw hl hs m t.parent q hq (by omega) hn (lv t.parent - lv n) rfl
    have hst := hgt_step hw hq
    have hmem : x ∈ lst D t.parent := hw.up x t hx
    have hmx : hgt D x <= ((lst D t.parent).map (hgt D)).foldl max 0 := (foldl_max_ge _ 0).2 _ (List.mem_map.2 ⟨x, hmem, rfl⟩)
    omega
theorem hgt_pos {D : Dc} (hw : WF D) {x : Nat} {t : Sl} (hx : sl D x = some t) : 1 <= hgt D x := by
 rw [hgt_step hw hx]
 omega
theorem slots_setPar {D : Dc} {n p : Nat} {s : Sl} (hs : sl D n = some s) : (setPar D n p).S.length = D.S.length /\ ∀ (j : Nat) (t : Sl), (setPar D n p).S[j]? = some t -> ∃ t1, D.S[j]? = some t1 /\ (t = t1 \/ (t1.live = true /\ t = { t1 with parent := p })) := by
 obtain ⟨i, ha, hi, e⟩ := setPar_of (p := p) hs
 rw [e]
 refine ⟨by simp [setS], fun j t ht => ?_⟩
 have ht' : (D.S.set i { s with parent := p })[j]? = some t := ht
 by_cases e : i = j
 ·subst e
  rw [List.getElem?_set_self (List.getElem?_eq_some_iff.1 hi).1] at ht'
  cases ht'
  obtain ⟨_, _, _, hlv, _⟩ := sl_live hs
  exact ⟨s, hi, .inr ⟨hlv, rfl⟩⟩
 ·rw [List.getElem?_set_ne e] at ht'
  exact ⟨t, ht', .inl rfl⟩
theorem WF.put {D : Dc} (hw : WF D) {n p k : Nat} {s : Sl} (hs : sl D n = some s) (hp : p = 0 \/ ∃ q, sl D p = some q) (hup : n ∉ ups D p) (hkd : ∀ q, sl D p = some q -> q.kind ≠ 2) (hht : (ups D p).length + hgt D n <= 64) :
  WF (setPar (setL (outD D n s) p (ins (lst (outD D n s) p) k n)) n p) := by
 obtain ⟨lv, hl⟩ := hw.lev
 obtain ⟨kk, hk, hkx, hkl⟩ := idxH_mem (hw.up n s hs)
 have hsp := (dep_par hl hs).2
 obtain ⟨hcut, hcnd⟩ := cut_facts (hw.nodup s.parent) hkx
 have hE : outD D n s = setL D s.parent ((lst D s.parent).take kk ++ (lst D s.parent).drop (kk + 1)) := by
  unfold outD
  rw [hk, Int.toNat_natCast]
 rw [hE]
 generalize hl' : (lst D s.parent).take kk ++ (lst D s.parent).drop (kk + 1) = l' at *
 have hlE : ∀ q, lst (setL D s.parent l') q = if q = s.parent then l' else lst D q := fun q => by
  by_cases e : q = s.parent
  ·rw [if_pos e, e, lst_setL_eq hsp]
  ·rw [if_neg e, lst_setL_ne e]
 have hspl : s.parent ≠ 0 -> ∀ t1, sl D s.parent = some t1 -> t1.kids ≠ [] := fun h0 t1 ht1 he => by
  have := hw.up n s hs
  rw [lst, if_neg h0, ht1] at this
  simp only [he] at this
  simp at this
 obtain ⟨sE, hsE, hsEp⟩ := sl_setL_into (p := s.parent) (l' := l') hs
 have hpE : p = 0 \/ ∃ q, sl (setL D s.parent l') p = some q := hp.imp id (fun ⟨q, hq⟩ => by obtain ⟨q', h1, _⟩ := sl_setL_into (p := s.parent) (l' := l') hq; exact ⟨q', h1⟩)
 have hnE : n ∉ lst (setL D s.parent l') p := fun hm => by
  rw [hlE] at hm
  by_cases e : p = s.parent
  ·rw [if_pos e] at hm
   exact ((hcut n).1 hm).2 rfl
  ·rw [if_neg e] at hm
   obtain ⟨t, h1, h2⟩ := hw.down p hp n hm
   rw [hs] at h1
   cases h1
   exact e h2.symm
 have hndE : (lst (setL D s.parent l') p).Nodup := by
  rw [hlE]
  split
  ·exact hcnd
  ·exact hw.nodup p
 obtain ⟨hins, hind⟩ := ins_facts (k := k) hndE hnE
 generalize hl2 : ins (lst (setL D s.parent l') p) k n = l2 at *
 obtain ⟨s2, hs2, hs2p⟩ := sl_setL_into (p := p) (l' := l2) hsE
 have hlF : ∀ q, lst (setPar (setL (setL D s.parent l') p l2) n p) q = if q = p then l2 else lst (setL D s.parent l') q := fun q => by
  rw [lst_setPar hs2]
  by_cases e : q = p
  ·rw [if_pos e, e, lst_setL_eq hpE]
  ·rw [if_neg e, lst_setL_ne e]
 have hfrom : ∀ x t, sl (setPar (setL (setL D s.parent l') p l2) n p) x = some t -> ∃ t0, sl D x = some t0 /\ t.parent = if x = n then p else t0.parent := fun x t ht => by
  rw [sl_setPar hs2] at ht
  by_cases e : x = n
  ·rw [if_pos e] at ht
   cases ht
   exact ⟨s, by rw [e]; exact hs, by rw [if_pos e]⟩
  ·rw [if_neg e] at ht
   obtain ⟨t1, h1, h2⟩ := sl_setL_from ht
   obtain ⟨t0, h3, h4⟩ := sl_setL_from h1
   exact ⟨t0, h3, by rw [if_neg e, h2, h4]⟩
 have hinto : ∀ x t0, sl D x = some t0 -> ∃ t, sl (setPar (setL (setL D s.parent l') p l2) n p) x = some t /\ t.parent = if x = n then p else t0.parent := fun x t0 ht => by
  rw [sl_setPar hs2]
  by_cases e : x = n
  ·rw [if_pos e, if_pos e]
   exact ⟨_, rfl, rfl⟩
  ·rw [if_neg e, if_neg e]
   obtain ⟨t1, h1, h2⟩ := sl_setL_into (p := s.parent) (l' := l') ht
   obtain ⟨t2, h3, h4⟩ := sl_setL_into (p := p) (l' := l2) h1
   exact ⟨t2, h3, by rw [h4, h2]⟩
 obtain ⟨c1, c2⟩ := slots_setPar (p := p) hs2
 obtain ⟨d1, d2⟩ := slots_setL (D := setL D s.parent l') (p := p) (l' := l2)
 obtain ⟨f1, f2⟩ := slots_setL (D := D) (p := s.parent) (l' := l')
 have hS : ∀ (j : Nat) (t : Sl), (setPar (setL (setL D s.parent l') p l2) n p).S[j]? = some t -> ∃ t1, D.S[j]? = some t1 /\ t.gen = t1.gen /\ t.live = t1.live /\ t.kind = t1.kind /\ t.name = t1.name /\ t.attrs = t1.attrs /\ t.text = t1.text /\ (t = t1 \/ t1.live = true) /\ (t.kids = t1.kids \/ t1.kind ≠ 2) := fun j t ht => by
  obtain ⟨t3, g1, g2⟩ := c2 j t ht
  obtain ⟨t2, k1, k2⟩ := d2 j t3 g1
  obtain ⟨t1, m1, m2⟩ := f2 j t2 k1
  have hA : t2.gen = t1.gen /\ t2.live = t1.live /\ t2.kind = t1.kind /\ t2.name = t1.name /\ t2.attrs = t1.attrs /\ t2.text = t1.text /\ (t2 = t1 \/ t1.live = true) /\ (t2.kids = t1.kids \/ t1.kind ≠ 2) := by
   rcases m2 with rfl | ⟨e1, e0, rfl⟩
   ·exact ⟨rfl, rfl, rfl, rfl, rfl, rfl, .inl rfl, .inl rfl⟩
   ·obtain ⟨_, _, h3, h4, _⟩ := sl_live e1
    refine ⟨rfl, rfl, rfl, rfl, rfl, rfl, .inr h4, .inr (fun h2 => ?_)⟩
    exact hspl e0 t1 e1 (((hw.used j t1 m1 h4).1 h2).1)
  have hB : t3.gen = t2.gen /\ t3.live = t2.live /\ t3.kind = t2.kind /\ t3.name = t2.name /\ t3.attrs = t2.attrs /\ t3.text = t2.text /\ (t3 = t2 \/ t2.live = true) /\ (t3.kids = t2.kids \/ t2.kind ≠ 2) := by
   rcases k2 with rfl | ⟨e1, e0, rfl⟩
   ·exact ⟨rfl, rfl, rfl, rfl, rfl, rfl, .inl rfl, .inl rfl⟩
   ·obtain ⟨_, _, _, h4, _⟩ := sl_live e1
    refine ⟨rfl, rfl, rfl, rfl, rfl, rfl, .inr h4, .inr (fun h2 => ?_)⟩
    obtain ⟨q, hq⟩ := hp.resolve_left e0
    by_cases ep : p = s.parent
    ·rw [<- ep, sl_setL_eq hq] at e1
     cases e1
     exact hkd q hq h2
    ·rw [sl_setL_ne ep, hq] at e1
     cases e1
     exact hkd t2 hq h2
  obtain ⟨a1, a2, a3, a4, a5, a6, a7, a8⟩ := hA
  obtain ⟨b1, b2, b3, b4, b5, b6, b7, b8⟩ := hB
  have hC : t.gen = t3.gen /\ t.live = t3.live /\ t.kind = t3.kind /\ t.name = t3.name /\ t.attrs = t3.attrs /\ t.text = t3.text /\ (t = t3 \/ t3.live = true) /\ t.kids = t3.kids := by
   rcases g2 with rfl | ⟨h1, rfl⟩
   ·exact ⟨rfl, rfl, rfl, rfl, rfl, rfl, .inl rfl, rfl⟩
   ·exact ⟨rfl, rfl, rfl, rfl, rfl, rfl, .inr h1, rfl⟩
  obtain ⟨q1, q2, q3, q4, q5, q6, q7, q8⟩ := hC
  refine ⟨t1, m1, q1.trans (b1.trans a1), q2.trans (b2.trans a2), q3.trans (b3.trans a3), q4.trans (b4.trans a4), q5.trans (b5.trans a5), q6.trans (b6.trans a6), ?_, ?_⟩
  ·rcases q7 with rfl | h
   ·rcases b7 with rfl | h
    ·exact a7
    ·exact .inr (by rw [<- a2]; exact h)
   ·exact .inr (by rw [<- a2, <- b2]; exact h)
  ·rcases b8 with h | h
   ·rcases a8 with h' | h'
    ·exact .inl (q8.trans (h.trans h'))
    ·exact .inr h'
   ·exact .inr (by rw [<- a3]; exact h)
 have hdp : (ups D p).length = dep lv p := ups_length hl hp
 have hge : ∀ x t, sl D x = some t -> n ∈ ups D x -> lv n <= lv x := fun x t hx hn => (ups_one hl (lv x) x t hx (Nat.le_refl _)).1 n hn
 have hself : n ∈ ups D n := by rw [ups_step hl hs]; simp
 refine ⟨⟨by rw [c1, d1, f1]; exact hw.fits.len, fun j t ht => ?_⟩, fun j t ht => ?_, fun j t ht hd => ?_, fun j t ht hd => ?_, fun j t ht hd => ?_, ⟨fun x => if n ∈ ups D x then lv x - lv n + dep lv p else lv x, fun x t ht => ?_⟩, fun x t ht => ?_, fun q hq x hx => ?_, fun q => ?_⟩
 ·obtain ⟨t1, h1, h2, _⟩ := hS j t ht
  rw [h2]; exact hw.fits.gen j t1 h1
 ·obtain ⟨t1, h1, h2, _⟩ := hS j t ht
  rw [h2]; exact hw.gen1 j t1 h1
 ·obtain ⟨t1, h1, h2, h3, _, _, _, _, h8, _⟩ := hS j t ht
  rcases h8 with rfl | h8
  ·exact hw.dead j t h1 hd
  ·rw [h3, h8] at hd; cases hd
 ·obtain ⟨t1, h1, h2, h3, h4, h5, h6, h7, _, _⟩ := hS j t ht
  have := hw.own j t1 h1 (by rw [<- h3]; exact hd)
  have e : ndOf t = ndOf t1 := by simp [ndOf, h4, h5, h6, h7]
  rw [e]; exact this
 ·obtain ⟨t1, h1, h2, h3, h4, h5, h6, h7, _, h9⟩ := hS j t ht
  obtain ⟨u1, u2⟩ := hw.used j t1 h1 (by rw [<- h3]; exact hd)
  refine ⟨fun h => ?_, fun h => by rw [h7]; exact u2 (by rw [<- h4]; exact h)⟩
  rw [h4] at h
  obtain ⟨v1, v2, v3⟩ := u1 h
  rcases h9 with h9 | h9
  ·exact ⟨by rw [h9]; exact v1, by rw [h5]; exact v2, by rw [h6]; exact v3⟩
  ·exact absurd h h9
 ·obtain ⟨t0, h1, h2⟩ := hfrom x t ht
  by_cases hxn : x = n
  ·subst hxn
   rw [if_pos rfl] at h2
   rw [hs] at h1
   cases h1
   simp only [if_pos hself, Nat.sub_self, Nat.zero_add]
   have hb := hgt_pos hw hs
   refine ⟨by omega, ?_⟩
   rw [h2]
   rcases hp with rfl | ⟨q, hq⟩
   ·exact .inl ⟨rfl, rfl⟩
   ·right
    obtain ⟨q', e1, _⟩ := hinto p q hq
    refine ⟨q', e1, ?_⟩
    rw [if_neg hup]
    have h0 : p ≠ 0 := fun e => by rw [e, sl_zero] at hq; cases hq
    simp [dep, h0]
  ·rw [if_neg hxn] at h2
   obtain ⟨g1, g2⟩ := hl x t0 h1
   by_cases hin : n ∈ ups D x
   ·simp only [if_pos hin]
    have hin2 := hin
    rw [ups_step hl h1] at hin2
    have hin3 : n ∈ ups D t0.parent := by
     rcases List.mem_cons.1 hin2 with e | h
     ·exact absurd e.symm hxn
     ·exact h
    have h0 : t0.parent ≠ 0 := fun e => by rw [e, ups_zero] at hin3; cases hin3
    rcases g2 with g2 | ⟨q, hq, g3⟩
    ·exact absurd g2.1 h0
    ·have hq1 := hge t0.parent q hq hin3
     have hw1 := within_hgt hw hl hs (lv x) x t0 h1 (Nat.le_refl _) hin _ rfl
     have hp1 := hgt_pos hw h1
     refine ⟨by omega, .inr ?_⟩
     obtain ⟨q', e1, _⟩ := hinto t0.parent q hq
     rw [h2]
     refine ⟨q', e1, ?_⟩
     rw [if_pos hin3]
     omega
   ·simp only [if_neg hin]
    refine ⟨g1, ?_⟩
    rw [h2]
    rcases g2 with g2 | ⟨q, hq, g3⟩
    ·exact .inl g2
    ·right
     obtain ⟨q', e1, _⟩ := hinto t0.parent q hq
     refine ⟨q', e1, ?_⟩
     have hnin : n ∉ ups D t0.parent := fun h => hin (by rw [ups_step hl h1]; exact List.mem_cons_of_mem _ h)
     rw [if_neg hnin]
     exact g3
 ·obtain ⟨t0, h1, h2⟩ := hfrom x t ht
  rw [h2]
  by_cases hxn : x = n
  ·rw [if_pos hxn, hlF, if_pos rfl, hins]
   exact .inl hxn
  ·rw [if_neg hxn, hlF]
   have hu := hw.up x t0 h1
   have hxE : x ∈ lst (setL D s.parent l') t0.parent := by
    rw [hlE]
    by_cases e : t0.parent = s.parent
    ·rw [if_pos e, hcut]
     exact ⟨by rw [<- e]; exact hu, hxn⟩
    ·rw [if_neg e]; exact hu
   by_cases e : t0.parent = p
   ·rw [if_pos e, hins]
    exact .inr (by rw [<- e]; exact hxE)
   ·rw [if_neg e]; exact hxE
 ·have hq0 : q = 0 \/ ∃ t, sl D q = some t := hq.imp id (fun ⟨t, ht⟩ => by obtain ⟨t0, h1, _⟩ := hfrom q t ht; exact ⟨t0, h1⟩)
  have old : ∀ q, (q = 0 \/ ∃ t, sl D q = some t) -> x ∈ lst (setL D s.parent l') q -> x ≠ n -> ∃ t, sl (setPar (setL (setL D s.parent l') p l2) n p) x = some t /\ t.parent = q := fun q hq0 hxE hxn => by
   have hxD : x ∈ lst D q := by
    rw [hlE] at hxE
    by_cases e : q = s.parent
    ·rw [if_pos e] at hxE
     rw [e]; exact ((hcut x).1 hxE).1
    ·rw [if_neg e] at hxE; exact hxE
   obtain ⟨t0, h1, h2⟩ := hw.down q hq0 x hxD
   obtain ⟨t, h3, h4⟩ := hinto x t0 h1
   exact ⟨t, h3, by rw [h4, if_neg hxn, h2]⟩
  rw [hlF] at hx
  by_cases e : q = p
  ·rw [if_pos e, hins] at hx
   rcases hx with rfl | hx
   ·obtain ⟨t, h3, h4⟩ := hinto x s hs
    exact ⟨t, h3, by rw [h4, if_pos rfl, e]⟩
   ·exact old q hq0 (by rw [e]; exact hx) (fun h => hnE (h ▸ hx))
  ·rw [if_neg e] at hx
   refine old q hq0 hx (fun h => ?_)
   subst h
   rw [hlE] at hx
   by_cases e2 : q = s.parent
   ·rw [if_pos e2] at hx
    exact ((hcut x).1 hx).2 rfl
   ·rw [if_neg e2] at hx
    obtain ⟨t0, h1, h2⟩ := hw.down q hq0 x hx
    rw [hs] at h1
    cases h1
    exact e2 h2.symm
 ·rw [hlF]
  by_cases e : q = p
  ·rw [if_pos e]; exact hind
  ·rw [if_neg e, hlE]
   split
   ·exact hcnd
   ·exact hw.nodup q
theorem place_facts {D : Dc} (hw : WF D) {wh : Int} {a : Nat} (he : (placeE D wh a).2 = 0) (hpl : isPlaceB wh a = true) :
  (∀ q, sl D (placeE D wh a).1 = some q -> q.kind ≠ 2) /\ (∀ n, n ∉ ups D a -> n ∉ ups D (placeE D wh a).1) /\ (placeE D wh a).1 = arD D wh a /\ (wh = 1 \/ wh = 2 \/ ((wh = 3 \/ wh = 4) /\ a ∈ lst D (placeE D wh a).1)) := by
 obtain ⟨lv, hl⟩ := hw.lev
 have hpl' : wh = 1 \/ wh = 2 \/ ((wh = 3 \/ wh = 4) /\ a ≠ 0) := by simpa [isPlaceB] using hpl
 by_cases h0 : a = 0
 ·subst h0
  have e : placeE D wh 0 = (0, 0) := by simp [placeE]
  rw [e]
  refine ⟨(by intro q hq; rw [sl_zero] at hq; cases hq), fun n hn => hn, ?_, ?_⟩
  ·unfold arD
   split
   ·rename_i h
    rcases hpl' with h' | h' | h'
    ·omega
    ·omega
    ·exact absurd rfl h'.2
   ·rfl
  ·rcases hpl' with h' | h' | h'
   ·exact .inl h'
   ·exact .inr (.inl h')
   ·exact absurd rfl h'.2
 ·cases hs : sl D a with
  | none =>
   have e : placeE D wh a = (0, 8) := by simp [placeE, h0, hs]
   rw [e] at he
   cases he
  | some s =>
   by_cases hwh : wh <= 2
   ·by_cases hk : s.kind = 2
    ·have e : placeE D wh a = (0, 31) := by simp [placeE, h0, hs, hwh, hk]
     rw [e] at he
     cases he
    ·have e : placeE D wh a = (a, 0) := by simp [placeE, h0, hs, hwh, hk]
     rw [e]
     refine ⟨fun q hq => by rw [hs] at hq; cases hq; exact hk, fun n hn => hn, ?_, ?_⟩
     ·unfold arD
      rw [if_neg (by omega)]
     ·rcases hpl' with h' | h' | h'
      ·exact .inl h'
      ·exact .inr (.inl h')
      ·omega
   ·have e : placeE D wh a = (s.parent, 0) := by simp [placeE, h0, hs, hwh]
    rw [e]
    have hu := hw.up a s hs
    refine ⟨fun q hq hk => ?_, fun n hn h => hn ?_, ?_, ?_⟩
    ·obtain ⟨i, _, hi, hlv, _⟩ := sl_live hq
     have := ((hw.used i q hi hlv).1 hk).1
     have hp0 : s.parent ≠ 0 := fun e => by rw [e, sl_zero] at hq; cases hq
     rw [lst, if_neg hp0, hq] at hu
     simp only [this] at hu
     cases hu
    ·rw [ups_step hl hs]
     exact List.mem_cons_of_mem _ h
    ·unfold arD
     rw [if_pos (by omega)]
     simp [par, hs]
    ·rcases hpl' with h' | h' | h'
     ·omega
     ·omega
     ·exact .inr (.inr ⟨h'.1, hu⟩)
theorem WF.mov {D : Dc} (hw : WF D) (n : Nat) (wh : Int) (a : Nat) : WF (movD D n wh a).1 := by
 unfold movD
 split
 ·exact hw
 ·rename_i hpl
  split
  ·exact hw
  ·rename_i s hs
   split
   ·exact hw
   ·split
    ·exact hw
    ·rename_i h8 hup
     split
     ·exact hw
     ·rename_i he
      split
      ·exact hw
      ·rename_i hht
       have he' : (placeE D wh a).2 = 0 := by simpa using he
       have hpl' : isPlaceB wh a = true := by simpa using hpl
       obtain ⟨f1, f2, f3, f4⟩ := place_facts hw he' hpl'
       have hupn : n ∉ ups D a := by simpa using hup
       exact hw.put hs (placeE_live hw he').1 (f2 n hupn) f1 (by omega)
end Go.Proofs.YtjkgjckkglfokaaGreat.Gr
