/- Trees made in a document, in plain: what is new, what stays. -/
import Derived.Test.YtmapmkogjhinmaaGreatA15
namespace Go.Proofs.YtmapmkogjhinmaaGreat
open Go.RowKit
set_option maxRecDepth 100000
set_option maxHeartbeats 4000000
set_option linter.unusedVariables false
set_option linter.unusedSimpArgs false
structure Grown (D E : Dc) (p : Nat) (N hs : List Nat) (k ht : Nat) : Prop where
 sane : Sane E
 roots : E.roots = D.roots
 tk : cnt takenB E.S = cnt takenB D.S + k
 cl : cnt Sl.live E.S = cnt Sl.live D.S + k
 new : ∀ x ∈ N, sl D x = none /\ x ≠ 0
 old : ∀ y, y ∉ N -> sl E y = sl D y
 sub : ∀ x ∈ hs, x ∈ N
 nod : hs.Nodup
 kids : ∀ x ∈ N, ∃ s, sl E x = some s /\ s.kids.Nodup /\ ∀ y ∈ s.kids, y ∈ N /\ y ∉ hs /\ ∃ t, sl E y = some t /\ t.parent = x
 par : ∀ x ∈ N, ∃ s, sl E x = some s /\ ((x ∈ hs /\ s.parent = p) \/ (x ∉ hs /\ s.parent ∈ N /\ ∃ q, sl E s.parent = some q /\ x ∈ q.kids))
 lev : ∃ lv : Nat -> Nat, ∀ x ∈ N, lv x + 1 <= ht /\ ∀ s, sl E x = some s -> (x ∈ hs -> lv x = 0) /\ (x ∉ hs -> lv x = lv s.parent + 1)
theorem Grown.none {D : Dc} (hs : Sane D) (p : Nat) : Grown D D p [] [] 0 0 :=
 ⟨hs, rfl, rfl, rfl, (fun x h => by cases h), (fun _ _ => rfl), (fun x h => by cases h), .nil, (fun x h => by cases h), (fun x h => by cases h), ⟨fun _ => 0, fun x h => by cases h⟩⟩
theorem Grown.cons {D D1 E : Dc} {p h : Nat} {N1 N2 hs : List Nat} {k1 k2 t1 t2 : Nat} (a : Grown D D1 p N1 [h] k1 t1) (b : Grown D1 E p N2 hs k2 t2) : Grown D E p (N1 ++ N2) (h :: hs) (k1 + k2) (max t1 t2) := by
 have dis : ∀ x ∈ N1, x ∉ N2 := fun x h1 h2 => by
  obtain ⟨s, h3, _⟩ := a.kids x h1
  rw [(b.new x h2).1] at h3
  cases h3
 have hh : h ∈ N1 := a.sub h (by simp)
 have e1 : ∀ x ∈ N1, sl E x = sl D1 x := fun x hx => b.old x (dis x hx)
 have hn : ∀ x ∈ N1, (x ∈ h :: hs ↔ x ∈ [h]) := fun x hx => by
  simp only [List.mem_cons, List.not_mem_nil, or_false]
  exact ⟨fun e => e.resolve_right (fun e2 => dis x hx (b.sub x e2)), .inl⟩
 have hn2 : ∀ x ∈ N2, (x ∈ h :: hs ↔ x ∈ hs) := fun x hx => by
  simp only [List.mem_cons]
  exact ⟨fun e => e.resolve_left (fun e2 => dis x (e2 ▸ hh) hx), .inr⟩
 obtain ⟨lv1, l1⟩ := a.lev
 obtain ⟨lv2, l2⟩ := b.lev
 refine ⟨b.sane, b.roots.trans a.roots, by rw [b.tk, a.tk]; omega, by rw [b.cl, a.cl]; omega, fun x hx => ?_, fun y hy => ?_, fun x hx => ?_, ?_, fun x hx => ?_, fun x hx => ?_, fun x => if x ∈ N1 then lv1 x else lv2 x, fun x hx => ?_⟩
 ·rcases List.mem_append.1 hx with h1 | h1
  ·exact a.new x h1
  ·have := b.new x h1
   refine ⟨?_, this.2⟩
   rw [<- a.old x (fun h2 => dis x h2 h1)]
   exact this.1
 ·simp only [List.mem_append, not_or] at hy
  rw [b.old y hy.2, a.old y hy.1]
 ·rcases List.mem_cons.1 hx with rfl | h1
  ·exact List.mem_append_left _ hh
  ·exact List.mem_append_right _ (b.sub x h1)
 ·exact List.nodup_cons.2 ⟨fun e => dis h hh (b.sub h e), b.nod⟩
 ·rcases List.mem_append.1 hx with h1 | h1
  ·obtain ⟨s, h2, h3, h4⟩ := a.kids x h1
   refine ⟨s, by rw [e1 x h1]; exact h2, h3, fun y hy => ?_⟩
   obtain ⟨g1, g2, t, g3, g4⟩ := h4 y hy
   exact ⟨List.mem_append_left _ g1, fun e => g2 ((hn y g1).1 e), t, by rw [e1 y g1]; exact g3, g4⟩
  ·obtain ⟨s, h2, h3, h4⟩ := b.kids x h1
   refine ⟨s, h2, h3, fun y hy => ?_⟩
   obtain ⟨g1, g2, g3⟩ := h4 y hy
   exact ⟨List.mem_append_right _ g1, fun e => g2 ((hn2 y g1).1 e), g3⟩
 ·rcases List.mem_append.1 hx with h1 | h1
  ·obtain ⟨s, h2, h3⟩ := a.par x h1
   refine ⟨s, by rw [e1 x h1]; exact h2, ?_⟩
   rcases h3 with ⟨g1, g2⟩ | ⟨g1, g2, q, g3, g4⟩
   ·exact .inl ⟨(hn x h1).2 g1, g2⟩
   ·exact .inr ⟨fun e => g1 ((hn x h1).1 e), List.mem_append_left _ g2, q, by rw [e1 _ g2]; exact g3, g4⟩
  ·obtain ⟨s, h2, h3⟩ := b.par x h1
   refine ⟨s, h2, ?_⟩
   rcases h3 with ⟨g1, g2⟩ | ⟨g1, g2, q, g3, g4⟩
   ·exact .inl ⟨(hn2 x h1).2 g1, g2⟩
   ·exact .inr ⟨fun e => g1 ((hn2 x h1).1 e), List.mem_append_right _ g2, q, g3, g4⟩
 ·rcases List.mem_append.1 hx with h1 | h1
  ·obtain ⟨g1, g2⟩ := l1 x h1
   simp only [if_pos h1]
   refine ⟨by omega, fun s hs1 => ?_⟩
   rw [e1 x h1] at hs1
   refine ⟨fun e => (g2 s hs1).1 ((hn x h1).1 e), fun e => ?_⟩
   obtain ⟨s', h2, h3⟩ := a.par x h1
   rw [hs1] at h2
   cases h2
   have e' : x ∉ [h] := fun e3 => e ((hn x h1).2 e3)
   rcases h3 with ⟨g3, _⟩ | ⟨_, g4, _⟩
   ·exact absurd g3 e'
   ·rw [if_pos g4]
    exact (g2 s hs1).2 e'
  ·have hx1 : x ∉ N1 := fun e => dis x e h1
   obtain ⟨g1, g2⟩ := l2 x h1
   simp only [if_neg hx1]
   refine ⟨by omega, fun s hs1 => ?_⟩
   refine ⟨fun e => (g2 s hs1).1 ((hn2 x h1).1 e), fun e => ?_⟩
   obtain ⟨s', h2, h3⟩ := b.par x h1
   rw [hs1] at h2
   cases h2
   have e' : x ∉ hs := fun e3 => e ((hn2 x h1).2 e3)
   rcases h3 with ⟨g3, _⟩ | ⟨_, g4, _⟩
   ·exact absurd g3 e'
   ·rw [if_neg (fun e4 => dis _ e4 g4)]
    exact (g2 s hs1).2 e'
theorem setKI_some {D : Dc} {i : Nat} {s : Sl} (h : D.S[i]? = some s) (l : List Nat) : setKI D i l = setS D i { s with kids := l } := by
 unfold setKI
 rw [h]
theorem sane_setKI {D : Dc} (hs : Sane D) {i : Nat} {s : Sl} (h : D.S[i]? = some s) (hl : s.live = true) {l : List Nat} (hk : s.kind = 2 -> l = []) : Sane (setKI D i l) := by
 rw [setKI_some h]
 have hi := (List.getElem?_eq_some_iff.1 h).1
 have hall : ∀ (j : Nat) (t : Sl), (setS D i { s with kids := l }).S[j]? = some t -> (j = i /\ t = { s with kids := l }) \/ (j ≠ i /\ D.S[j]? = some t) := fun j t ht => by
  by_cases e : j = i
  ·left
   have : (D.S.set i { s with kids := l })[j]? = some t := ht
   rw [e, List.getElem?_set_self hi] at this
   cases this
   exact ⟨e, rfl⟩
  ·right
   have : (D.S.set i { s with kids := l })[j]? = some t := ht
   rw [List.getElem?_set_ne (Ne.symm e)] at this
   exact ⟨e, this⟩
 refine ⟨⟨?_, fun j t ht => ?_⟩, fun j t ht => ?_, fun j t ht hd => ?_, fun j t ht hv => ?_, fun j t ht hv => ?_⟩
 ·show (D.S.set i _).length <= 4096
  simpa using hs.fits.len
 ·rcases hall j t ht with ⟨_, rfl⟩ | ⟨_, h1⟩
  ·exact hs.fits.gen i s h
  ·exact hs.fits.gen j t h1
 ·rcases hall j t ht with ⟨_, rfl⟩ | ⟨_, h1⟩
  ·exact hs.gen1 i s h
  ·exact hs.gen1 j t h1
 ·rcases hall j t ht with ⟨_, rfl⟩ | ⟨_, h1⟩
  ·have hd' : s.live = false := hd
   rw [hl] at hd'
   cases hd'
  ·exact hs.dead j t h1 hd
 ·rcases hall j t ht with ⟨_, rfl⟩ | ⟨_, h1⟩
  ·exact hs.own i s h hl
  ·exact hs.own j t h1 hv
 ·rcases hall j t ht with ⟨_, rfl⟩ | ⟨_, h1⟩
  ·obtain ⟨u1, u2⟩ := hs.used i s h hl
   exact ⟨fun e => ⟨hk e, (u1 e).2⟩, u2⟩
  ·exact hs.used j t h1 hv
theorem Grown.node {α : Type} {D E : Dc} (hs : Sane D) (hc : cnt takenB D.S + 1 <= 4096) (t : Nd α) (p : Nat) (hp : p = 0 \/ ∃ q, sl D p = some q) (ho : ownE t = 0) {N hk : List Nat} {k ht : Nat} (g : Grown (seed D t p) E (seedH D) N hk k ht) (hk2 : t.kind = 2 -> hk = []) :
  Grown D (setKI E (freeD D).1 hk) p (seedH D :: N) [seedH D] (k + 1) (ht + 1) /\ sl E (seedH D) = some (mkS (genAt (freeD D).2 (freeD D).1 + 1) t p []) /\ atI E.S (seedH D) = some (freeD D).1 /\ E.S[(freeD D).1]? = some (mkS (genAt (freeD D).2 (freeD D).1 + 1) t p []) := by
 obtain ⟨s1, s2, s3, s4, s5, s6, s7, s8, s9, s10⟩ := seed_facts hs hc t p ho
 have hsl : sl (seed D t p) (seedH D) = some (mkS (genAt (freeD D).2 (freeD D).1 + 1) t p []) := by unfold sl; rw [s6]; exact s7
 have hN : seedH D ∉ N := fun e => by
  have := (g.new _ e).1
  rw [hsl] at this
  cases this
 have hslE : sl E (seedH D) = some (mkS (genAt (freeD D).2 (freeD D).1 + 1) t p []) := by rw [g.old _ hN]; exact hsl
 obtain ⟨i, ha, hi, hlv, hhnd⟩ := sl_live hslE
 have hii : i = (freeD D).1 := by
  have f := free_facts hs hc
  have hil : (freeD D).1 < 4294967295 := by omega
  have hlen := g.sane.fits.len
  have hi' := (List.getElem?_eq_some_iff.1 hi).1
  have e1 := (hnd_idx (i := (freeD D).1) (g := genAt (freeD D).2 (freeD D).1 + 1) hil).1
  have e2 := (hnd_idx (i := i) (g := (mkS (genAt (freeD D).2 (freeD D).1 + 1) t p []).gen) (by omega)).1
  rw [<- hhnd] at e2
  unfold seedH at e2
  omega
 rw [hii] at ha hi
 refine ⟨?_, hslE, ha, hi⟩
 have hpn : p ≠ seedH D := fun e => by
  rcases hp with h0 | ⟨q, hq⟩
  ·exact s9 (e ▸ h0)
  ·rw [e, s5] at hq
   cases hq
 have hset := setKI_some hi hk
 have hsl' : ∀ x, sl (setKI E (freeD D).1 hk) x = if x = seedH D then some (mkS (genAt (freeD D).2 (freeD D).1 + 1) t p hk) else sl E x := fun x => by
  have hh := sl_setS (s' := mkS (genAt (freeD D).2 (freeD D).1 + 1) t p hk) hi rfl rfl x
  have he : setKI E (freeD D).1 hk = setS E (freeD D).1 (mkS (genAt (freeD D).2 (freeD D).1 + 1) t p hk) := hset
  rw [he, hh]
  by_cases e : x = seedH D
  ·rw [if_pos e, e, if_pos ha]
  ·rw [if_neg e, if_neg (fun e2 => e (at_same ha e2))]
 obtain ⟨lv, hl⟩ := g.lev
 refine ⟨sane_setKI g.sane hi hlv hk2, ?_, ?_, ?_, fun x hx => ?_, fun y hy => ?_, fun x hx => ?_, by simp, fun x hx => ?_, fun x hx => ?_, fun x => if x = seedH D then 0 else lv x + 1, fun x hx => ?_⟩
 ·rw [hset]
  show E.roots = _
  rw [g.roots, s2]
 ·rw [hset]
  show cnt takenB (E.S.set _ _) = _
  rw [cnt_set hi (by rfl), g.tk, s3]
  omega
 ·rw [hset]
  show cnt Sl.live (E.S.set _ _) = _
  rw [cnt_set hi (by rfl), g.cl, s4]
  omega
 ·rcases List.mem_cons.1 hx with rfl | h1
  ·exact ⟨s5, s9⟩
  ·have := g.new x h1
   refine ⟨?_, this.2⟩
   rw [<- s8 x (fun e => hN (e ▸ h1))]
   exact this.1
 ·simp only [List.mem_cons, not_or] at hy
  rw [hsl', if_neg hy.1, g.old y hy.2, s8 y hy.1]
 ·simp only [List.mem_singleton] at hx
  simp [hx]
 ·by_cases e : x = seedH D
  ·refine ⟨_, by rw [hsl', if_pos e], g.nod, fun y hy => ?_⟩
   have hy' : y ∈ hk := hy
   have hyN := g.sub y hy'
   have hyne : y ≠ seedH D := fun e => hN (e ▸ hyN)
   obtain ⟨s, h1, h2⟩ := g.par y hyN
   refine ⟨List.mem_cons_of_mem _ hyN, by simpa using hyne, s, by rw [hsl', if_neg hyne]; exact h1, ?_⟩
   rcases h2 with ⟨_, h3⟩ | ⟨h3, _⟩
   ·rw [h3, e]
   ·exact absurd hy' h3
  ·have hxN : x ∈ N := (List.mem_cons.1 hx).resolve_left e
   obtain ⟨s, h1, h2, h3⟩ := g.kids x hxN
   refine ⟨s, by rw [hsl', if_neg e]; exact h1, h2, fun y hy => ?_⟩
   obtain ⟨g1, g2, t', g3, g4⟩ := h3 y hy
   have hyne : y ≠ seedH D := fun e => hN (e ▸ g1)
   exact ⟨List.mem_cons_of_mem _ g1, by simpa using hyne, t', by rw [hsl', if_neg hyne]; exact g3, g4⟩
 ·by_cases e : x = seedH D
  ·exact ⟨_, by rw [hsl', if_pos e], .inl ⟨by simpa using e, rfl⟩⟩
  ·have hxN : x ∈ N := (List.mem_cons.1 hx).resolve_left e
   obtain ⟨s, h1, h2⟩ := g.par x hxN
   refine ⟨s, by rw [hsl', if_neg e]; exact h1, .inr ⟨by simpa using e, ?_⟩⟩
   rcases h2 with ⟨h3, h4⟩ | ⟨h3, h4, q, h5, h6⟩
   ·exact ⟨by rw [h4]; simp, _, by rw [hsl', if_pos h4], h3⟩
   ·exact ⟨List.mem_cons_of_mem _ h4, q, by rw [hsl', if_neg (fun (e2 : s.parent = seedH D) => hN (e2 ▸ h4))]; exact h5, h6⟩
 ·by_cases e : x = seedH D
  ·simp only [if_pos e]
   exact ⟨by omega, fun s _ => ⟨fun _ => trivial, fun e2 => absurd (by simpa using e) e2⟩⟩
  ·have hxN : x ∈ N := (List.mem_cons.1 hx).resolve_left e
   simp only [if_neg e]
   obtain ⟨g1, g2⟩ := hl x hxN
   refine ⟨by omega, fun s hs1 => ⟨fun e2 => absurd (by simpa using e2) e, fun _ => ?_⟩⟩
   rw [hsl', if_neg e] at hs1
   obtain ⟨s', h1, h2⟩ := g.par x hxN
   rw [hs1] at h1
   cases h1
   rcases h2 with ⟨h3, h4⟩ | ⟨h3, h4, _⟩
   ·rw [if_pos h4, (g2 s hs1).1 h3]
   ·rw [if_neg (fun (e2 : s.parent = seedH D) => hN (e2 ▸ h4)), (g2 s hs1).2 h3]
theorem foldl_max_cons (a : Nat) (l : List Nat) : (a :: l).foldl max 0 = max a (l.foldl max 0) := by
 have hm : ∀ (l : List Nat) (x y : Nat), l.foldl max (max x y) = max x (l.foldl max y) := fun l => by
  induction l with
  | nil => intro x y; rfl
  | cons z r ih =>
   intro x y
   simp only [List.foldl_cons]
   rw [Nat.max_assoc, ih]
 have := hm l a 0
 simpa [Nat.max_comm] using this
theorem grow_spec : ∀ (n : Nat) (t : T n) (p : Nat) (D : Dc), Sane D -> cnt takenB D.S + ndT n t <= 4096 -> (p = 0 \/ ∃ q, sl D p = some q) -> okT n t ->
  ∃ N, Grown D (growD n t p D).1 p N [(growD n t p D).2] (ndT n t) (htT n t) := by
 intro n
 induction n with
 | zero => intro t; cases t
 | succ n ih =>
  intro t p D hs hc hp hok
  have hlist : ∀ (l : List (T n)) (h : Nat) (D : Dc), Sane D -> cnt takenB D.S + (l.map (ndT n)).sum <= 4096 -> (h = 0 \/ ∃ q, sl D h = some q) -> (∀ k ∈ l, okT n k) ->
    ∃ N, Grown D (growK (growD n) h l D).1 h N (growK (growD n) h l D).2 (l.map (ndT n)).sum ((l.map (htT n)).foldl max 0) := by
   intro l
   induction l with
   | nil =>
    intro h D hs _ _ _
    exact ⟨[], Grown.none hs h⟩
   | cons k r ihl =>
    intro h D hs hc hh hk
    simp only [List.map_cons, List.sum_cons] at hc
    obtain ⟨N1, g1⟩ := ih k h D hs (by omega) hh (hk k (by simp))
    have hh1 : h = 0 \/ ∃ q, sl (growD n k h D).1 h = some q := hh.imp id (fun ⟨q, hq⟩ => ⟨q, by
     rw [g1.old h (fun e => ?_)]
     ·exact hq
     ·have := (g1.new h e).1
      rw [hq] at this
      cases this⟩)
    obtain ⟨N2, g2⟩ := ihl h (growD n k h D).1 g1.sane (by rw [g1.tk]; omega) hh1 (fun x hx => hk x (by simp [hx]))
    refine ⟨N1 ++ N2, ?_⟩
    have := g1.cons g2
    rw [List.map_cons, List.sum_cons, List.map_cons, foldl_max_cons]
    exact this
  have hnd : ndT (n + 1) t = ((kidsT t).map (ndT n)).sum + 1 := rfl
  rw [hnd] at hc
  obtain ⟨ho, hks⟩ := hok
  obtain ⟨s1, s2, s3, s4, s5, s6, s7, s8, s9, s10⟩ := seed_facts hs (by omega) t p ho
  have hsl : sl (seed D t p) (seedH D) = some (mkS (genAt (freeD D).2 (freeD D).1 + 1) t p []) := by unfold sl; rw [s6]; exact s7
  obtain ⟨N, g⟩ := hlist (kidsT t) (seedH D) (seed D t p) s1 (by rw [s3]; omega) (.inr ⟨_, hsl⟩) hks
  refine ⟨seedH D :: N, (Grown.node hs (by omega) t p hp ho g (fun h2 => ?_)).1⟩
  have : kidsT t = [] := by unfold kidsT; rw [if_neg (by omega)]
  rw [this]
  rfl
theorem Grown.notin {D E : Dc} {p : Nat} {N hs : List Nat} {k ht q : Nat} (g : Grown D E p N hs k ht) (hq : q = 0 \/ ∃ s, sl D q = some s) : q ∉ N := fun e => by
 obtain ⟨h1, h2⟩ := g.new q e
 rcases hq with h0 | ⟨s, hs⟩
 ·exact h2 h0
 ·rw [h1] at hs
  cases hs
theorem Grown.lst_old {D E : Dc} {p : Nat} {N hs : List Nat} {k ht q : Nat} (g : Grown D E p N hs k ht) (hq : q ∉ N) : lst E q = lst D q := by
 unfold lst
 by_cases h0 : q = 0
 ·rw [if_pos h0, if_pos h0, g.roots]
 ·rw [if_neg h0, if_neg h0, g.old q hq]
theorem lst_of {D : Dc} {q : Nat} {s : Sl} (h : sl D q = some s) : lst D q = s.kids := by
 have h0 : q ≠ 0 := by rintro rfl; rw [sl_zero] at h; cases h
 unfold lst
 rw [if_neg h0, h]
theorem WF.ins {D E : Dc} (hw : WF D) {p k h m ht : Nat} {N : List Nat} (g : Grown D E p N [h] m ht) (hp : p = 0 \/ ∃ q, sl D p = some q) (hkd : ∀ q, sl D p = some q -> q.kind ≠ 2) (hht : (ups D p).length + ht <= 64) :
  WF (setL E p (ins (lst E p) k h)) := by
 obtain ⟨lv, hl⟩ := hw.lev
 obtain ⟨lvN, hlN⟩ := g.lev
 have hpN := g.notin hp
 have hhN : h ∈ N := g.sub h (by simp)
 rw [g.lst_old hpN]
 have hne : h ∉ lst D p := fun e => by
  obtain ⟨s, h1, _⟩ := hw.down p hp h e
  rw [(g.new h hhN).1] at h1
  cases h1
 obtain ⟨hins, hind⟩ := ins_facts (k := k) (hw.nodup p) hne
 generalize hl2 : Go.Proofs.YtmapmkogjhinmaaGreat.ins (lst D p) k h = l2 at *
 have hpE : p = 0 \/ ∃ q, sl E p = some q := hp.imp id (fun ⟨q, hq⟩ => ⟨q, by rw [g.old p hpN]; exact hq⟩)
 have hlF : ∀ q, lst (setL E p l2) q = if q = p then l2 else lst E q := fun q => by
  by_cases e : q = p
  ·rw [if_pos e, e, lst_setL_eq hpE]
  ·rw [if_neg e, lst_setL_ne e]
 have hslN : ∀ x ∈ N, sl (setL E p l2) x = sl E x := fun x hx => sl_setL_ne (fun e => hpN (e ▸ hx))
 have hfrom : ∀ x, x ∉ N -> ∀ t, sl (setL E p l2) x = some t -> ∃ t0, sl D x = some t0 /\ t.parent = t0.parent := fun x hx t ht => by
  obtain ⟨t0, h1, h2⟩ := sl_setL_from ht
  rw [g.old x hx] at h1
  exact ⟨t0, h1, h2⟩
 have hinto : ∀ x t0, sl D x = some t0 -> ∃ t, sl (setL E p l2) x = some t /\ t.parent = t0.parent := fun x t0 h0 => by
  have : sl E x = some t0 := by rw [g.old x (g.notin (.inr ⟨t0, h0⟩))]; exact h0
  exact sl_setL_into this
 have hdp : (ups D p).length = dep lv p := ups_length hl hp
 obtain ⟨d1, d2⟩ := slots_setL (D := E) (p := p) (l' := l2)
 have hS : ∀ (j : Nat) (t : Sl), (setL E p l2).S[j]? = some t -> ∃ t1, E.S[j]? = some t1 /\ (t = t1 \/ (t1.live = true /\ t1.kind ≠ 2 /\ t = { t1 with kids := l2 })) := fun j t ht => by
  obtain ⟨t1, h1, h2⟩ := d2 j t ht
  refine ⟨t1, h1, h2.imp id (fun ⟨e1, e2, e3⟩ => ?_)⟩
  obtain ⟨_, _, _, h4, _⟩ := sl_live e1
  rw [g.old p hpN] at e1
  exact ⟨h4, hkd t1 e1, e3⟩
 have hs := g.sane
 refine ⟨⟨by rw [d1]; exact hs.fits.len, fun j t ht => ?_⟩, fun j t ht => ?_, fun j t ht hd => ?_, fun j t ht hd => ?_, fun j t ht hd => ?_, ⟨fun x => if x ∈ N then lvN x + dep lv p else lv x, fun x t ht => ?_⟩, fun x t ht => ?_, fun q hq x hx => ?_, fun q => ?_⟩
 ·obtain ⟨t1, h1, rfl | ⟨_, _, rfl⟩⟩ := hS j t ht
  ·exact hs.fits.gen j t h1
  ·exact hs.fits.gen j t1 h1
 ·obtain ⟨t1, h1, rfl | ⟨_, _, rfl⟩⟩ := hS j t ht
  ·exact hs.gen1 j t h1
  ·exact hs.gen1 j t1 h1
 ·obtain ⟨t1, h1, rfl | ⟨h2, _, rfl⟩⟩ := hS j t ht
  ·exact hs.dead j t h1 hd
  ·have hd' : t1.live = false := hd
   rw [h2] at hd'
   cases hd'
 ·obtain ⟨t1, h1, rfl | ⟨h2, _, rfl⟩⟩ := hS j t ht
  ·exact hs.own j t h1 hd
  ·exact hs.own j t1 h1 h2
 ·obtain ⟨t1, h1, rfl | ⟨h2, h3, rfl⟩⟩ := hS j t ht
  ·exact hs.used j t h1 hd
  ·exact ⟨fun e => absurd e h3, (hs.used j t1 h1 h2).2⟩
 ·by_cases hx : x ∈ N
  ·rw [hslN x hx] at ht
   obtain ⟨g1, g2⟩ := hlN x hx
   obtain ⟨s, h1, h2⟩ := g.par x hx
   rw [ht] at h1
   cases h1
   simp only [if_pos hx]
   refine ⟨by omega, ?_⟩
   rcases h2 with ⟨h3, h4⟩ | ⟨h3, h4, q, h5, h6⟩
   ·rw [(g2 t ht).1 h3, h4]
    rcases hp with rfl | ⟨q, hq⟩
    ·exact .inl ⟨rfl, by simp [dep]⟩
    ·right
     obtain ⟨q', e1, _⟩ := hinto p q hq
     refine ⟨q', e1, ?_⟩
     rw [if_neg hpN]
     have h0 : p ≠ 0 := fun e => by rw [e, sl_zero] at hq; cases hq
     simp [dep, h0]
   ·right
    refine ⟨q, by rw [hslN _ h4]; exact h5, ?_⟩
    rw [if_pos h4, (g2 t ht).2 h3]
    omega
  ·obtain ⟨t0, h1, h2⟩ := hfrom x hx t ht
   obtain ⟨g1, g2⟩ := hl x t0 h1
   simp only [if_neg hx]
   refine ⟨g1, ?_⟩
   rw [h2]
   rcases g2 with g2 | ⟨q, hq, g3⟩
   ·exact .inl g2
   ·right
    obtain ⟨q', e1, _⟩ := hinto t0.parent q hq
    refine ⟨q', e1, ?_⟩
    rw [if_neg (g.notin (.inr ⟨q, hq⟩))]
    exact g3
 ·by_cases hx : x ∈ N
  ·rw [hslN x hx] at ht
   obtain ⟨s, h1, h2⟩ := g.par x hx
   rw [ht] at h1
   cases h1
   rw [hlF]
   rcases h2 with ⟨h3, h4⟩ | ⟨h3, h4, q, h5, h6⟩
   ·rw [if_pos h4, hins]
    exact .inl (by simpa using h3)
   ·rw [if_neg (fun (e : t.parent = p) => hpN (e ▸ h4)), lst_of h5]
    exact h6
  ·obtain ⟨t0, h1, h2⟩ := hfrom x hx t ht
   have hu := hw.up x t0 h1
   rw [h2, hlF]
   by_cases e : t0.parent = p
   ·rw [if_pos e, hins]
    exact .inr (e ▸ hu)
   ·rw [if_neg e, g.lst_old (g.notin (dep_par hl h1).2)]
    exact hu
 ·rw [hlF] at hx
  have hold : ∀ q, (q = 0 \/ ∃ s, sl D q = some s) -> x ∈ lst D q -> ∃ s, sl (setL E p l2) x = some s /\ s.parent = q := fun q hq hx => by
   obtain ⟨s, h1, h2⟩ := hw.down q hq x hx
   obtain ⟨t, h3, h4⟩ := hinto x s h1
   exact ⟨t, h3, h4.trans h2⟩
  by_cases e : q = p
  ·rw [if_pos e, hins] at hx
   rcases hx with rfl | hx
   ·obtain ⟨s, h1, h2⟩ := g.par x hhN
    refine ⟨s, by rw [hslN x hhN]; exact h1, ?_⟩
    rcases h2 with ⟨_, h3⟩ | ⟨h3, _⟩
    ·rw [h3, e]
    ·exact absurd (by simp) h3
   ·rw [e]
    exact hold p hp hx
  ·rw [if_neg e] at hx
   by_cases hqN : q ∈ N
   ·obtain ⟨s, h1, h2, h3⟩ := g.kids q hqN
    rw [lst_of h1] at hx
    obtain ⟨g1, _, t, g3, g4⟩ := h3 x hx
    exact ⟨t, by rw [hslN x g1]; exact g3, g4⟩
   ·rw [g.lst_old hqN] at hx
    exact hold q (hq.imp id (fun ⟨t, ht⟩ => by obtain ⟨t0, h1, _⟩ := hfrom q hqN t ht; exact ⟨t0, h1⟩)) hx
 ·rw [hlF]
  by_cases e : q = p
  ·rw [if_pos e]
   exact hind
  ·rw [if_neg e]
   by_cases hqN : q ∈ N
   ·obtain ⟨s, h1, h2, h3⟩ := g.kids q hqN
    rw [lst_of h1]
    exact h2
   ·rw [g.lst_old hqN]
    exact hw.nodup q
theorem setPar_same {D : Dc} {n p : Nat} {s : Sl} (hs : sl D n = some s) (hp : s.parent = p) : setPar D n p = D := by
 obtain ⟨i, h1, h2, h3⟩ := setPar_of (p := p) hs
 rw [h3]
 unfold setS
 have : ({ s with parent := p } : Sl) = s := by rw [<- hp]
 rw [this]
 have hi := (List.getElem?_eq_some_iff.1 h2)
 have : D.S.set i s = D.S := by
  rw [<- hi.2]
  exact List.set_getElem_self hi.1
 rw [this]
def frB (D : Dc) (i : Nat) : Bool := match D.S[i]? with | some s => freeB s | none => true
def frL (D : Dc) : List Nat := (List.range 4096).filter (frB D)
theorem filter_range_len {α : Type} (f : α -> Bool) (g : Nat -> Bool) (l : List α) (h : ∀ i a, l[i]? = some a -> g i = f a) : ((List.range l.length).filter g).length = (l.filter f).length := by
 have key : ∀ k, k <= l.length -> ((List.range k).filter g).length = ((l.take k).filter f).length := fun k => by
  induction k with
  | zero => intro _; rfl
  | succ k ih =>
   intro hk
   have hl : l[k]? = some l[k] := List.getElem?_eq_getElem (by omega)
   rw [List.range_succ, List.filter_append, List.length_append, ih (by omega), List.take_add_one, List.filter_append, List.length_append, hl]
   have := h k _ hl
   simp only [List.filter_cons, List.filter_nil, Option.toList_some, this]
   split <;> rfl
 have := key l.length (Nat.le_refl _)
 rw [List.take_length] at this
 exact this
theorem cnt_not {S : List Sl} (hg : ∀ s ∈ S, s.gen < 4294967296) : cnt takenB S + cnt freeB S = S.length := by
 induction S with
 | nil => rfl
 | cons a r ih =>
  have := ih (fun s hs => hg s (by simp [hs]))
  have ha := hg a (by simp)
  have hn : takenB a = !freeB a := by
   unfold takenB freeB
   cases a.live with
   | true => rfl
   | false =>
    by_cases e : a.gen < 4294967295
    ·simp [e]; omega
    ·simp [e]; omega
  unfold cnt at *
  rw [List.filter_cons, List.filter_cons, hn]
  cases freeB a with
  | true => simp; omega
  | false => simp; omega
theorem frL_len {D : Dc} (hf : Fits D) : (frL D).length + cnt takenB D.S = 4096 := by
 have hl := hf.len
 have e : List.range 4096 = List.range D.S.length ++ (List.range (4096 - D.S.length)).map (D.S.length + ·) := by
  rw [<- List.range_add]
  congr 1
  omega
 unfold frL
 rw [e, List.filter_append, List.length_append, filter_range_len freeB (frB D) D.S (fun i a h => by unfold frB; rw [h])]
 have h2 : ((List.range (4096 - D.S.length)).map (D.S.length + ·)).filter (frB D) = (List.range (4096 - D.S.length)).map (D.S.length + ·) := by
  rw [List.filter_eq_self]
  intro x hx
  simp only [List.mem_map, List.mem_range] at hx
  obtain ⟨y, _, rfl⟩ := hx
  unfold frB
  rw [List.getElem?_eq_none (by omega)]
 rw [h2, List.length_map, List.length_range]
 have := cnt_not (S := D.S) (fun s hs => by
  obtain ⟨j, hj⟩ := List.getElem?_of_mem hs
  exact hf.gen j s hj)
 unfold cnt at *
 omega
theorem free_least {D : Dc} : ∀ j, j < (freeD D).1 -> frB D j = false := by
 unfold freeD
 intro j hj
 cases hi : D.S.findIdx? freeB with
 | some i =>
  rw [hi] at hj
  simp only at hj
  rw [List.findIdx?_eq_some_iff_getElem] at hi
  obtain ⟨h1, h2, h3⟩ := hi
  unfold frB
  rw [List.getElem?_eq_getElem (by omega)]
  simpa using h3 j hj
 | none =>
  rw [hi] at hj
  simp only at hj
  rw [List.findIdx?_eq_none_iff] at hi
  unfold frB
  rw [List.getElem?_eq_getElem (by omega)]
  simpa using hi _ (List.getElem_mem _)
theorem filter_range_head {p p' : Nat -> Bool} {n i : Nat} (hi : i < n) (h1 : p i = true) (h2 : ∀ j, j < i -> p j = false) (h3 : p' i = false) (h4 : ∀ j, j ≠ i -> p' j = p j) : (List.range n).filter p = i :: (List.range n).filter p' := by
 have e : List.range n = List.range i ++ i :: (List.range (n - i - 1)).map (fun k => i + 1 + k) := by
  have h := List.range_add (n := i + 1) (m := n - i - 1)
  rw [show i + 1 + (n - i - 1) = n by omega, List.range_succ] at h
  rw [h]
  simp
 rw [e, List.filter_append, List.filter_append, List.filter_cons, List.filter_cons, if_pos h1, if_neg (by simp [h3])]
 have e1 : (List.range i).filter p = [] := by
  rw [List.filter_eq_nil_iff]
  intro x hx
  simp [h2 x (List.mem_range.1 hx)]
 have e2 : (List.range i).filter p' = [] := by
  rw [List.filter_eq_nil_iff]
  intro x hx
  have := List.mem_range.1 hx
  rw [h4 x (by omega), h2 x this]
  simp
 rw [e1, e2, List.nil_append, List.nil_append]
 congr 1
 apply List.filter_congr
 intro x hx
 simp only [List.mem_map, List.mem_range] at hx
 obtain ⟨y, _, rfl⟩ := hx
 exact (h4 _ (by omega)).symm
theorem frL_seed {α : Type} {D : Dc} (hs : Sane D) (hc : cnt takenB D.S + 1 <= 4096) (t : Nd α) (p : Nat) : frL D = (freeD D).1 :: frL (seed D t p) := by
 obtain ⟨f1, f2, f3, f4, f5, f6, ⟨s0, f7, f8, f9, f10⟩, f11, f12⟩ := free_facts hs hc
 refine filter_range_head (by omega) ?_ free_least ?_ (fun j hj => ?_)
 ·unfold freeD
  cases hi : D.S.findIdx? freeB with
  | some i =>
   rw [List.findIdx?_eq_some_iff_getElem] at hi
   obtain ⟨h1, h2, _⟩ := hi
   unfold frB
   rw [List.getElem?_eq_getElem h1]
   exact h2
  | none =>
   unfold frB
   rw [List.getElem?_eq_none (Nat.le_refl _)]
 ·unfold frB seed setS
  simp only
  rw [List.getElem?_set_self f3]
  rfl
 ·unfold frB seed setS
  simp only
  rw [List.getElem?_set_ne (Ne.symm hj), f11 j hj]
theorem frL_setKI {D : Dc} (i : Nat) (l : List Nat) : frL (setKI D i l) = frL D := by
 unfold frL
 apply List.filter_congr
 intro j _
 unfold setKI
 cases h : D.S[i]? with
 | none => rfl
 | some s =>
  unfold frB setS
  simp only
  by_cases e : j = i
  ·subst e
   rw [List.getElem?_set_self ((List.getElem?_eq_some_iff.1 h).1), h]
   rfl
  ·rw [List.getElem?_set_ne (Ne.symm e)]
theorem growK_frL (n : Nat) (ih : ∀ (t : T n) (p : Nat) (D : Dc), Sane D -> cnt takenB D.S + ndT n t <= 4096 -> (p = 0 \/ ∃ q, sl D p = some q) -> okT n t -> frL D = (frL D).take (ndT n t) ++ frL (growD n t p D).1) :
  ∀ (l : List (T n)) (h : Nat) (D : Dc), Sane D -> cnt takenB D.S + (l.map (ndT n)).sum <= 4096 -> (h = 0 \/ ∃ q, sl D h = some q) -> (∀ k ∈ l, okT n k) -> frL D = (frL D).take (l.map (ndT n)).sum ++ frL (growK (growD n) h l D).1 := by
 intro l
 induction l with
 | nil => intro h D hs _ _ _; simp [growK]
 | cons k r ihl =>
  intro h D hs hc hh hk
  simp only [List.map_cons, List.sum_cons] at hc
  obtain ⟨N1, g1⟩ := grow_spec n k h D hs (by omega) hh (hk k (by simp))
  have hh1 : h = 0 \/ ∃ q, sl (growD n k h D).1 h = some q := hh.imp id (fun ⟨q, hq⟩ => ⟨q, by rw [g1.old h (g1.notin (.inr ⟨q, hq⟩))]; exact hq⟩)
  have e1 := ih k h D hs (by omega) hh (hk k (by simp))
  have e2 := ihl h (growD n k h D).1 g1.sane (by rw [g1.tk]; omega) hh1 (fun x hx => hk x (by simp [hx]))
  have hlen := frL_len hs.fits
  have hcut : (frL D).take (ndT n k + (r.map (ndT n)).sum) = (frL D).take (ndT n k) ++ (frL (growD n k h D).1).take (r.map (ndT n)).sum := by
   have key : ∀ (A B : List Nat) (a b : Nat), A = A.take a ++ B -> a <= A.length -> A.take (a + b) = A.take a ++ B.take b := fun A B a b h ha => by
    conv => lhs; rw [h]
    rw [List.take_append, List.length_take, Nat.min_eq_left ha, Nat.add_sub_cancel_left, List.take_take, Nat.min_eq_right (by omega)]
   exact key _ _ _ _ e1 (by omega)
  simp only [List.map_cons, List.sum_cons]
  rw [hcut, List.append_assoc]
  conv => lhs; rw [e1, e2]
  rfl
theorem grow_frL : ∀ (n : Nat) (t : T n) (p : Nat) (D : Dc), Sane D -> cnt takenB D.S + ndT n t <= 4096 -> (p = 0 \/ ∃ q, sl D p = some q) -> okT n t -> frL D = (frL D).take (ndT n t) ++ frL (growD n t p D).1 := by
 intro n
 induction n with
 | zero => intro t; cases t
 | succ n ih =>
  intro t p D hs hc hp hok
  have hnd : ndT (n + 1) t = ((kidsT t).map (ndT n)).sum + 1 := rfl
  rw [hnd] at hc ⊢
  obtain ⟨ho, hks⟩ := hok
  obtain ⟨s1, s2, s3, s4, s5, s6, s7, s8, s9, s10⟩ := seed_facts hs (by omega) t p ho
  have hsl : sl (seed D t p) (seedH D) = some (mkS (genAt (freeD D).2 (freeD D).1 + 1) t p []) := by unfold sl; rw [s6]; exact s7
  have e1 := growK_frL n ih (kidsT t) (seedH D) (seed D t p) s1 (by rw [s3]; omega) (.inr ⟨_, hsl⟩) hks
  have e0 := frL_seed hs (by omega) t p
  have eg : frL (growD (n + 1) t p D).1 = frL (growK (growD n) (seedH D) (kidsT t) (seed D t p)).1 := frL_setKI _ _
  rw [eg, e0, List.take_succ_cons, List.cons_append, <- e1]
def ivals (l : List Nat) : List Value := l.map fun h : Nat => .int .i64 (h : Int)
theorem ivals_append (l m : List Nat) : ivals (l ++ m) = ivals l ++ ivals m := by simp [ivals]
theorem info3 : InfoOf Tryz.prog 3 (.int .i64 0) 1 8 := by unfold InfoOf; kernel_rfl
def upTo (D : Dc) (i : Nat) : List Nat := (List.range i).filter (frB D)
theorem upTo_succ (D : Dc) (i : Nat) : upTo D (i + 1) = if frB D i = true then upTo D i ++ [i] else upTo D i := by
 unfold upTo
 rw [List.range_succ, List.filter_append]
 by_cases h : frB D i = true
 ·rw [if_pos h]; simp [h]
 ·rw [if_neg h]; simp [h]
theorem upTo_end (D : Dc) {i n : Nat} (hi : i <= 4096) (hn : (upTo D i).length <= n) (h : i = 4096 \/ (upTo D i).length = n) : upTo D i = (frL D).take n := by
 have e : frL D = upTo D i ++ ((List.range (4096 - i)).map (i + ·)).filter (frB D) := by
  unfold frL upTo
  rw [<- List.filter_append, <- List.range_add, Nat.add_sub_cancel' hi]
 rcases h with h | h
 ·subst h
  rw [List.take_of_length_le]
  ·rfl
  ·exact hn
 ·rw [e, <- h, List.take_left]
theorem frB_some {D : Dc} {i : Nat} {s : Sl} (h : D.S[i]? = some s) : frB D i = freeB s := by unfold frB; rw [h]
def FrlP (w : World) (l : List Nat) (e : Ending) (w' : World) : Prop :=
 ∃ a cap, e = .returned (.slice a l.length cap) /\ w'.ownsRow w.heap.size 3 1 (.slice a l.length cap) l.length (ivals l) /\ Below w.heap.size w w'
theorem pfree_any (w : World) (R : Nat -> Prop) (db : Nat) (D : Dc) (n : Nat) (hv : View w R db D) (hf : Fits D) (hn : n <= 4096) :
  Calls Tryz.prog 45 #[.pointer (some ⟨db, 0, none⟩), .int .i64 (n : Int)] w (FrlP w ((frL D).take n)) := by
 have hl := hf.len
 obtain ⟨a, cap, h1, hcl, -⟩ := hv.head
 have HV : Hid (View w R db D) := hv
 have hdb := hv.lt db hv.docs
 have HF : Hid (Fits D) := hf
 obtain ⟨W1, hmk, hO1, hB1⟩ : ∃ W1, (Instr.makeSlice 78 (.int .i64 0) (.int .i64 (n : Int))).run Tryz.prog w = .ok (.slice (some ⟨w.heap.size, 0, none⟩) 0 n) W1 /\ Hid (W1.ownsRow w.heap.size 3 1 (.slice (some ⟨w.heap.size, 0, none⟩) 0 n) 0 []) /\ Hid (Below w.heap.size w W1) := by
  obtain ⟨i, hi0, hz0, hz1, hz2⟩ := info3.parts
  obtain ⟨w', hr, h2, h3⟩ := run_make_own (P := Tryz.prog) w w.heap.size 78 3 i _ 1 Tryz.underlying78 hi0 hz0 hz1 .i64 .i64 n (by rw [hz2]; omega) (by unfold maxLen; omega) (Nat.le_refl _)
  exact ⟨w', hr, h2, ⟨h3.os, h3.tape, h3.output, h3.size, fun k hk => h3.block k hk (by simp)⟩⟩
 clear hv hf
 go_enter Tryz.func45, Tryz.ntmps45
 go_wp2
 clear hmk
 go_loopw [5, 6] (fun q iv wr => ∃ (i k : Nat) (qa : Option Addr) (qc : Nat), i <= 4096 /\ iv = .int .i64 (i : Int) /\ k <= n /\ q = .slice qa k qc /\ Hid ((upTo D i).length = k) /\ Hid (wr.ownsRow w.heap.size 3 1 (.slice qa k qc) k (ivals (upTo D i))) /\ Hid (Below w.heap.size w wr)) (fun _ iv _ => 4096 - (intOf iv).toNat)
 case atStart => exact ⟨0, 0, _, n, by omega, rfl, by omega, rfl, rfl, hO1, hB1⟩
 case round =>
  obtain ⟨i, k, qa, qc, hi, rfl, hk, rfl, hlen, hrow, hbw⟩ := hrel
  have hbs := hbw.out.size
  clear hO1 hB1
  have hdc : wr.cell? ⟨db, 0, none⟩ = some (.slice a D.S.length cap) := (hbw.out.cell (p := ⟨db, 0, none⟩) hdb).trans h1
  have hdl : db < wr.heap.size := by omega
  by_cases hlt : i < 4096
  ·have hlt' : (i : Int) < 4096 := by omega
   by_cases hkn : k < n
   ·have hkn' : (k : Int) < (n : Int) := by omega
    rcases Nat.lt_or_ge i D.S.length with hil | hil
    ·obtain ⟨s, hs⟩ : ∃ s, D.S[i]? = some s := ⟨_, List.getElem?_eq_getElem hil⟩
     obtain ⟨b, o, cap', aa, ac, ka, kc, h1', -, hbR, c0, c1, c2, c3, c4, c5, c6, c7, -⟩ := HV.out.slot hs
     rw [h1] at h1'
     simp only [Option.some.injEq, Value.slice.injEq, true_and] at h1'
     obtain ⟨rfl, rfl⟩ := h1'
     have hbb := HV.out.lt b hbR
     have hbl : b < wr.heap.size := by omega
     have hw : ∀ j v, w.cell? ⟨b, j, none⟩ = some v -> wr.cell? ⟨b, j, none⟩ = some v := fun j v h => (hbw.out.cell (p := ⟨b, j, none⟩) hbb).trans h
     replace c0 := hw _ _ c0
     replace c1 := hw _ _ c1
     replace c2 := hw _ _ c2
     replace c3 := hw _ _ c3
     replace c4 := hw _ _ c4
     replace c5 := hw _ _ c5
     replace c6 := hw _ _ c6
     replace c7 := hw _ _ c7
     have hge : ¬ (D.S.length : Int) <= (i : Int) := by omega
     have hfb : frB D i = (!s.live && decide (s.gen < 4294967295)) := frB_some hs
     have hsg := HF.out.gen i s hs
     clear hw hs
     go_wp2_with fail
     refine (canGive_any _ _ _ _ _ _ _ _ _).mono ?_
     rintro e w2 ⟨rfl, hb2⟩
     have HB2 : Hid (Below wr.heap.size wr w2) := hb2
     have hb2s := hb2.size
     have hbs2 : w.heap.size <= w2.heap.size := by omega
     have HOW : Hid (w2.ownsRow w.heap.size 3 1 (.slice qa k qc) k (ivals (upTo D i))) := own_after hrow.out hb2
     have HBW : Hid (Below w.heap.size w w2) := hbw.out.trans (hb2.mono hbs)
     clear hb2 hrow hbw
     have HFB : Hid (frB D i = (!s.live && decide (s.gen < 4294967295))) := hfb
     clear hfb c0 c1 c2 c3 c4 c5 c6 c7
     generalize (!s.live && decide (s.gen < 4294967295)) = gb at *
     cases gb
     ·have HUP : Hid (upTo D (i + 1) = upTo D i) := by show _ = _; rw [upTo_succ, if_neg (by rw [HFB.out]; simp)]
      go_wp2
      go_roundw
      case rel => exact ⟨i + 1, k, qa, qc, by omega, by go_num, hk, rfl, (by show _ = _; rw [HUP.out, hlen.out]), (by rw [HUP.out]; exact HOW), HBW⟩
      case measure => simp [intOf]; omega
     ·have HUP : Hid (upTo D (i + 1) = upTo D i ++ [i]) := by show _ = _; rw [upTo_succ, if_pos HFB.out]
      have tok : True := trivial
      go_wp2_with (at_builtin; have _t := tok; refine wpList_app rfl _ _ rfl Tryz.underlying78 info3 rfl (by decide) w.heap.size (.slice qa k qc) k (ivals (upTo D i)) rfl (own_of_block HOW.out (fun k hk => Below.heap_alloc _ _ _ (own_block_lt HOW.out k hk).2)) (some ⟨w2.heap.size, 0, none⟩) 1 1 [.int .i64 (i : Int)] rfl rfl (news_new w2 #[.int .i64 (i : Int)] 3) (by simp [Value.oneCell']) (by unfold maxLen; omega) (by omega) (by simp; omega) ?_; intro v1 w0 hown1 hg1 _ hat1; clear tok _t; obtain ⟨va1, vc1, hv1⟩ := own_slice hown1; subst hv1; have HO0 : Hid (w0.ownsRow w.heap.size 3 1 (.slice va1 (k + 1) vc1) (k + 1) (ivals (upTo D (i + 1)))) := (by rw [HUP.out, ivals_append]; exact hown1); have HB0 : Hid (Below w.heap.size w w0) := (HBW.out.trans (((Below.refl w.heap.size w2).alloc hbs2 _).grown hg1 (by simp; omega) (fun k hk => (own_block_lt HOW.out k hk).1))); clear hown1 hg1 hat1 HOW HBW)
      go_roundw
      case rel => exact ⟨i + 1, k + 1, va1, vc1, by omega, by go_num, by omega, rfl, (by show _ = _; rw [HUP.out, List.length_append, hlen.out]; rfl), HO0, HB0⟩
      case measure => simp [intOf]; omega
    ·have hge : (D.S.length : Int) <= (i : Int) := by omega
     have HUP : Hid (upTo D (i + 1) = upTo D i ++ [i]) := by
      show _ = _
      rw [upTo_succ, if_pos (by unfold frB; rw [List.getElem?_eq_none (by omega)])]
     have hbs2 := hbs
     have HOW := hrow
     have HBW := hbw
     clear hrow hbw
     have tok : True := trivial
     go_wp2_with (at_builtin; have _t := tok; refine wpList_app rfl _ _ rfl Tryz.underlying78 info3 rfl (by decide) w.heap.size (.slice qa k qc) k (ivals (upTo D i)) rfl (own_of_block HOW.out (fun k hk => Below.heap_alloc _ _ _ (own_block_lt HOW.out k hk).2)) (some ⟨wr.heap.size, 0, none⟩) 1 1 [.int .i64 (i : Int)] rfl rfl (news_new wr #[.int .i64 (i : Int)] 3) (by simp [Value.oneCell']) (by unfold maxLen; omega) (by omega) (by simp; omega) ?_; intro v1 w0 hown1 hg1 _ hat1; clear tok _t; obtain ⟨va1, vc1, hv1⟩ := own_slice hown1; subst hv1; have HO0 : Hid (w0.ownsRow w.heap.size 3 1 (.slice va1 (k + 1) vc1) (k + 1) (ivals (upTo D (i + 1)))) := (by rw [HUP.out, ivals_append]; exact hown1); have HB0 : Hid (Below w.heap.size w w0) := (HBW.out.trans (((Below.refl w.heap.size wr).alloc hbs2 _).grown hg1 (by simp; omega) (fun k hk => (own_block_lt HOW.out k hk).1))); clear hown1 hg1 hat1 HOW HBW)
     go_roundw
     case rel => exact ⟨i + 1, k + 1, va1, vc1, by omega, by go_num, by omega, rfl, (by show _ = _; rw [HUP.out, List.length_append, hlen.out]; rfl), HO0, HB0⟩
     case measure => simp [intOf]; omega
   ·have hkn' : ¬ (k : Int) < (n : Int) := by omega
    have hkn2 : k = n := by omega
    have HR : Hid (wr.ownsRow w.heap.size 3 1 (.slice qa k qc) k (ivals ((frL D).take n))) := by rw [<- upTo_end D hi (by rw [hlen.out]; exact hk) (.inr (by rw [hlen.out]; exact hkn2))]; exact hrow
    have HL : Hid (((frL D).take n).length = k) := by show _ = _; rw [<- upTo_end D hi (by rw [hlen.out]; exact hk) (.inr (by rw [hlen.out]; exact hkn2))]; exact hlen.out
    clear hrow
    subst hkn2
    go_wp2
    go_ret
    exact ⟨qa, qc, by rw [HL.out]; rfl, by rw [HL.out]; exact HR.out, hbw.out⟩
  ·have hlt' : ¬ (i : Int) < 4096 := by omega
   have hi2 : i = 4096 := by omega
   have HR : Hid (wr.ownsRow w.heap.size 3 1 (.slice qa k qc) k (ivals ((frL D).take n))) := by rw [<- upTo_end D hi (by rw [hlen.out]; exact hk) (.inl hi2)]; exact hrow
   have HL : Hid (((frL D).take n).length = k) := by show _ = _; rw [<- upTo_end D hi (by rw [hlen.out]; exact hk) (.inl hi2)]; exact hlen.out
   clear hrow
   go_wp2
   go_ret
   exact ⟨qa, qc, by rw [HL.out]; rfl, by rw [HL.out]; exact HR.out, hbw.out⟩
theorem handle_any (w : World) (i g : Nat) (hi : i < 4294967295) (hg : g < 4294967296) :
  Calls Tryz.prog 82 #[.int .i64 (i : Int), .int .u32 (g : Int)] w fun e w' => e = .returned (.int .u64 (hnd i g : Int)) /\ w' = w := by
 go_enter Tryz.func82, Tryz.ntmps82
 go_wp2
 go_ret
 exact ⟨congrArg _ (v_int (bits_hnd g i hg hi)), rfl⟩
structure FrAt (w : World) (fb fg : Nat) (F : List Nat) : Prop where
 cell : ∃ o cap, IsCells w fb #[.slice (some ⟨fg, o, none⟩) F.length cap] /\ F.length <= cap /\ ∀ (j x : Nat), F[j]? = some x -> w.cell? ⟨fg, o + j, none⟩ = some (.int .i64 (x : Int))
 ne : fg ≠ fb
 lt : fb < w.heap.size /\ fg < w.heap.size
theorem FrAt.of_blocks {w w' : World} {fb fg : Nat} {F : List Nat} (h : FrAt w fb fg F) (h1 : w'.heap[fb]? = w.heap[fb]?) (h2 : w'.heap[fg]? = w.heap[fg]?) (hs : w.heap.size <= w'.heap.size) : FrAt w' fb fg F := by
 obtain ⟨o, cap, a, b, c⟩ := h.cell
 exact ⟨⟨o, cap, a.of_block h1, b, fun j x hx => (World.cell?_of_block (w := w) (a := ⟨fg, o + j, none⟩) h2).trans (c j x hx)⟩, h.ne, by have := h.lt; omega⟩
def NextP (w : World) (fb fg : Nat) (i : Nat) (F : List Nat) (e : Ending) (w' : World) : Prop :=
 e = .returned (.int .i64 (i : Int)) /\ FrAt w' fb fg F /\ Turn (fun b => b = fb) w w'
theorem FrAt.popped {w : World} {fb fg i o cap o' cap' : Nat} {F : List Nat} (a : IsCells w fb #[.slice (some ⟨fg, o, none⟩) (i :: F).length cap]) (c : ∀ (j x : Nat), (i :: F)[j]? = some x -> w.cell? ⟨fg, o + j, none⟩ = some (.int .i64 (x : Int))) (hne : fg ≠ fb) (hlt : fb < w.heap.size /\ fg < w.heap.size) (hc : F.length <= cap') (ho : F ≠ [] -> o' = o + 1) :
  FrAt (w.setCell ⟨fb, 0, none⟩ (.slice (some ⟨fg, o', none⟩) F.length cap')) fb fg F /\ Turn (fun b => b = fb) w (w.setCell ⟨fb, 0, none⟩ (.slice (some ⟨fg, o', none⟩) F.length cap')) := by
 refine ⟨⟨⟨o', cap', ?_, hc, fun j x hx => ?_⟩, hne, by simp [World.setCell]; exact hlt⟩, Turn.setCell (A := fun b => b = fb) (Turn.refl _ _) (p := ⟨fb, 0, none⟩) rfl _⟩
 ·have := a.set 0 (.slice (some ⟨fg, o', none⟩) F.length cap')
  simpa using this
 ·have hF : F ≠ [] := fun e => by rw [e] at hx; simp at hx
  rw [ho hF]
  have := c (j + 1) x (by simpa using hx)
  rw [show o + 1 + j = o + (j + 1) by omega]
  exact (World.cell?_of_block (w := w) (a := ⟨fg, o + (j + 1), none⟩) (Below.heap_setCell _ _ _ _ hne)).trans this
theorem next_any (w : World) (fb fg i : Nat) (F : List Nat) (h : FrAt w fb fg (i :: F)) :
  Calls Tryz.prog 47 #[.pointer (some ⟨fb, 0, none⟩)] w (NextP w fb fg i F) := by
 obtain ⟨o, cap, a, b, c⟩ := h.cell
 have h0 : w.cell? ⟨fg, o, none⟩ = some (.int .i64 (i : Int)) := c 0 i rfl
 have hc := a.cell 0
 have hfz := a.frozen 0
 have hne := h.ne
 have hlt := h.lt
 have hll : (i :: F).length = F.length + 1 := rfl
 rw [hll] at b
 have hb1 : (1 : Int) <= (cap : Int) := by omega
 have HA : Hid (IsCells w fb #[.slice (some ⟨fg, o, none⟩) (i :: F).length cap]) := a
 have HC : Hid (∀ (j x : Nat), (i :: F)[j]? = some x -> w.cell? ⟨fg, o + j, none⟩ = some (.int .i64 (x : Int))) := c
 have hc' : w.cell? ⟨fb, 0, none⟩ = some (.slice (some ⟨fg, o, none⟩) (F.length + 1) cap) := hc
 have Hb : Hid (F.length + 1 <= cap) := b
 have Hlt : Hid (fb < w.heap.size /\ fg < w.heap.size) := hlt
 generalize hM : F.length = M at *
 have HM : Hid (F.length = M) := hM
 have hfbl := hlt.1
 have hfgl := hlt.2
 clear a c hc h hll hM hlt
 by_cases hcap : cap = 1
 ·have HE : Hid (F = []) := List.length_eq_zero_iff.1 (by have hm : F.length = M := HM.out; omega)
  subst hcap
  have hM0 : M = 0 := by omega
  subst hM0
  go_enter Tryz.func47, Tryz.ntmps47
  go_wp2
  go_ret
  have := FrAt.popped (o' := o) (cap' := 0) HA.out HC.out hne Hlt.out (by have hm := HM.out; have hb := Hb.out; omega) (fun h => absurd HE.out h)
  rw [HM.out] at this
  exact ⟨rfl, this⟩
 ·go_enter Tryz.func47, Tryz.ntmps47
  go_wp2
  go_ret
  have := FrAt.popped (o' := o + 1) (cap' := cap - 1) HA.out HC.out hne Hlt.out (by have hm := HM.out; have hb := Hb.out; omega) (fun _ => rfl)
  rw [HM.out] at this
  exact ⟨rfl, this⟩
def plantW (w : World) (g i : Nat) (s : Sl) (av : Value) : World :=
 (((((((w.setCell ⟨g, i * 8, none⟩ (.int .u32 (s.gen : Int))).setCell ⟨g, i * 8 + 1, none⟩ (.bool s.live)).setCell ⟨g, i * 8 + 2, none⟩ (.int .i64 s.kind)).setCell ⟨g, i * 8 + 3, none⟩ (.string s.name)).setCell ⟨g, i * 8 + 4, none⟩ av).setCell ⟨g, i * 8 + 5, none⟩ (.string s.text)).setCell ⟨g, i * 8 + 6, none⟩ (.int .u64 (s.parent : Int))).setCell ⟨g, i * 8 + 7, none⟩ (.slice none 0 0)
theorem Turn.plant {A : Nat -> Prop} {a w : World} (h : Turn A a w) {g : Nat} (hg : A g \/ a.heap.size <= g) (i : Nat) (s : Sl) (av : Value) : Turn A a (plantW w g i s av) := by
 have one : ∀ {w : World}, Turn A a w -> ∀ (o : Nat) (u : Value), Turn A a (w.setCell ⟨g, o, none⟩ u) := fun h o u => by
  rcases hg with hg | hg
  ·exact h.setCell (p := ⟨g, o, none⟩) hg u
  ·exact h.setNew (p := ⟨g, o, none⟩) hg u
 exact one (one (one (one (one (one (one (one h _ _) _ _) _ _) _ _) _ _) _ _) _ _) _ _
section
variable {w w' : World} {ro ro2 : Nat -> Nat} {db : Nat} {D : Dc} {z : Int} {sa : Option Addr} {g : Nat} {scap : Nat} {ra : Option Addr} {rcap : Nat} {L : List (Value × Value)}
theorem PdT.more (h : PdT w ro db D z sa scap ra rcap L) (he : ∀ b, ro b ≠ 0 -> ro2 b = ro b) (hl : ∀ b, ro2 b ≠ 0 -> b < w.heap.size) : PdT w ro2 db D z sa scap ra rcap L := by
 refine ⟨h.head, h.slots, h.roots, h.len, h.vals, ?_, fun b hb => ?_, fun b hb => ?_, fun i p b hp hb => ?_, fun i p b hp hb => ?_, hl⟩
 ·rw [he db (by rw [h.rdb]; omega), h.rdb]
 ·have := h.rs b hb
  rw [he b (by omega), this]
 ·have := h.rr b hb
  rw [he b (by omega), this]
 ·have := h.rat i p b hp hb
  rw [he b (by omega), this]
 ·have := h.rk i p b hp hb
  rw [he b (by omega), this]
theorem PdT.plant (h : PdT w ro db D z (some ⟨g, 0, none⟩) scap ra rcap L) {i : Nat} {s0 : Sl} (hs : D.S[i]? = some s0) (s : Sl) (hk : s.kids = []) {av : Value} (hv : w.ownsRow 0 52 2 av s.attrs.length (attrCells s.attrs)) (n1 : ∀ b, av.ownBlock = some b -> ro b = 2 * i + 4) :
  PdT (plantW w g i s av) ro db { D with S := D.S.set i s } z (some ⟨g, 0, none⟩) scap ra rcap (L.set i (av, .slice none 0 0)) := by
 have hi := (List.getElem?_eq_some_iff.1 hs).1
 have hl := h.len
 have hg : ro g = 2 := h.rs g rfl
 obtain ⟨p, hp⟩ : ∃ p, L[i]? = some p := ⟨_, List.getElem?_eq_getElem (by rw [h.len]; exact hi)⟩
 have v0 := h.vals i s0 p hs hp
 have a0 : ∀ b, p.1.ownBlock = some b -> ro b = 2 * i + 4 := fun b hb => h.rat i p b hp hb
 have b0 : ∀ b, p.2.ownBlock = some b -> ro b = 2 * i + 5 := fun b hb => h.rk i p b hp hb
 have n2 : ∀ b, (Value.slice none 0 0).ownBlock = some b -> ro b = 2 * i + 5 := fun b hb => by cases hb
 have t := fun (w : World) (q : Value × Value) (A : List (ByteArray × ByteArray)) (K : List Nat) (v : w.ownsRow 0 52 2 q.1 A.length (attrCells A) /\ w.ownsRow 0 32 1 q.2 K.length (hvals K)) (x1 : ∀ b, q.1.ownBlock = some b -> ro b = 2 * i + 4) (x2 : ∀ b, q.2.ownBlock = some b -> ro b = 2 * i + 5) (k : Nat) (u : Value) => two_rows (w := w) (ro := ro) (g := g) (i := i) (k := k) (p := q) (A := A) (K := K) hg v x1 x2 u
 have y := fun (w : World) (hv : w.ownsRow 0 52 2 av s.attrs.length (attrCells s.attrs)) (k : Nat) (u : Value) => (t w (av, .slice none 0 0) s.attrs [] ⟨hv, own_nil _ _ _ _⟩ n1 n2 k u).1
 have h0 := h.cell (j := 0) (s' := { s0 with gen := s.gen }) (p' := p) (u := .int .u32 (s.gen : Int)) hs hp (by omega) rfl v0 a0 b0
 have v1 := t _ p _ _ v0 a0 b0 (i * 8 + 0) (.int .u32 (s.gen : Int))
 have y1 := y _ hv (i * 8 + 0) (.int .u32 (s.gen : Int))
 have h1 := h0.cell' (j := 1) (s' := { s0 with gen := s.gen, live := s.live }) (p' := p) (u := .bool s.live) hi hl (by omega) rfl v1 a0 b0
 have v2 := t _ p _ _ v1 a0 b0 (i * 8 + 1) (.bool s.live)
 have y2 := y _ y1 (i * 8 + 1) (.bool s.live)
 have h2 := h1.cell' (j := 2) (s' := { s0 with gen := s.gen, live := s.live, kind := s.kind }) (p' := p) (u := .int .i64 s.kind) hi hl (by omega) rfl v2 a0 b0
 have v3 := t _ p _ _ v2 a0 b0 (i * 8 + 2) (.int .i64 s.kind)
 have y3 := y _ y2 (i * 8 + 2) (.int .i64 s.kind)
 have h3 := h2.cell' (j := 3) (s' := { s0 with gen := s.gen, live := s.live, kind := s.kind, name := s.name }) (p' := p) (u := .string s.name) hi hl (by omega) rfl v3 a0 b0
 have v4 := t _ p _ _ v3 a0 b0 (i * 8 + 3) (.string s.name)
 have y4 := y _ y3 (i * 8 + 3) (.string s.name)
 have h4 := h3.cell' (j := 4) (s' := { s0 with gen := s.gen, live := s.live, kind := s.kind, name := s.name, attrs := s.attrs }) (p' := (av, p.2)) (u := av) hi hl (by omega) rfl ⟨y4, v4.2⟩ n1 b0
 have v5 := t _ (av, p.2) s.attrs _ ⟨y4, v4.2⟩ n1 b0 (i * 8 + 4) av
 have h5 := h4.cell' (j := 5) (s' := { s0 with gen := s.gen, live := s.live, kind := s.kind, name := s.name, attrs := s.attrs, text := s.text }) (p' := (av, p.2)) (u := .string s.text) hi hl (by omega) rfl v5 n1 b0
 have v6 := t _ (av, p.2) s.attrs _ v5 n1 b0 (i * 8 + 5) (.string s.text)
 have h6 := h5.cell' (j := 6) (s' := { s with kids := s0.kids }) (p' := (av, p.2)) (u := .int .u64 (s.parent : Int)) hi hl (by omega) rfl v6 n1 b0
 have v7 := t _ (av, p.2) s.attrs _ v6 n1 b0 (i * 8 + 6) (.int .u64 (s.parent : Int))
 have h7 := h6.cell' (j := 7) (s' := s) (p' := (av, .slice none 0 0)) (u := .slice none 0 0) hi hl (by omega) rfl ⟨v7.1, by rw [hk]; exact own_nil _ _ _ _⟩ n1 n2
 exact h7
theorem PdS.more1 (h : PdS w ro db D sa scap ra rcap L) {a' : Option Addr} {c' : Nat} (hg : w.grownBy w' (Value.slice sa D.S.length scap).ownBlock) (hown : w'.ownsRow 0 90 8 (.slice a' (D.S.length + 1) c') (D.S.length + 1) (rowOf D.S L ++ slotCells (zeroSl 0) (.slice none 0 0, .slice none 0 0)))
  (hb : ∀ b, (Value.slice a' (D.S.length + 1) c').ownBlock = some b -> (Value.slice sa D.S.length scap).ownBlock = some b \/ w.heap.size <= b) :
  PdS (w'.setCell ⟨db, 0, none⟩ (.slice a' (D.S.length + 1) c')) (roN ro 2 (.slice a' (D.S.length + 1) c')) db { D with S := D.S ++ [zeroSl 0] } a' c' ra rcap (L ++ [(.slice none 0 0, .slice none 0 0)]) := by
 have hn1 : (D.S ++ [zeroSl 0]).length = D.S.length + 1 := by simp
 have ro1 : ∀ {b}, ro b ≠ 0 -> ro b ≠ 2 -> roN ro 2 (.slice a' (D.S.length + 1) c') b = ro b := fun h1 h2 => roN_other h.lt h.rs hb h1 h2
 have blk : ∀ b, ro b ≠ 0 -> ro b ≠ 2 -> w'.heap[b]? = w.heap[b]? := fun b h1 h2 => hg.block b (h.lt b h1) (fun e => h2 (h.rs b e.symm))
 have blk2 : ∀ b, ro b ≠ 0 -> ro b ≠ 2 -> ro b ≠ 1 -> (w'.setCell ⟨db, 0, none⟩ (.slice a' (D.S.length + 1) c')).heap[b]? = w.heap[b]? := fun b h1 h2 h3 =>
  (Below.heap_setCell _ _ _ _ (by show b ≠ db; rintro rfl; exact h3 h.rdb)).trans (blk b h1 h2)
 have hnd : ∀ b, (Value.slice a' (D.S.length + 1) c').ownBlock = some b -> b ≠ db := fun b hb' e => by
  subst e
  rcases hb b hb' with h' | h'
  ·have := h.rs b h'; rw [h.rdb] at this; omega
  ·have := h.lt b (by rw [h.rdb]; omega); omega
 have hold : ∀ (i : Nat) (s : Sl) (p : Value × Value), (D.S ++ [zeroSl 0])[i]? = some s -> (L ++ [(Value.slice none 0 0, Value.slice none 0 0)])[i]? = some p -> (D.S[i]? = some s /\ L[i]? = some p) \/ (s = zeroSl 0 /\ p = (.slice none 0 0, .slice none 0 0)) := fun i s p hs hp => by
  rcases Nat.lt_or_ge i D.S.length with hk | hk
  ·rw [List.getElem?_append_left hk] at hs
   rw [List.getElem?_append_left (by rw [h.len]; exact hk)] at hp
   exact .inl ⟨hs, hp⟩
  ·have hi : i = D.S.length := by have := (List.getElem?_eq_some_iff.1 hs).1; simp at this; omega
   subst hi
   rw [List.getElem?_append_right (Nat.le_refl _)] at hs
   rw [List.getElem?_append_right (by rw [h.len]; exact Nat.le_refl _), h.len] at hp
   simp at hs hp
   exact .inr ⟨hs.symm, hp.symm⟩
 have holdL : ∀ (i : Nat) (p : Value × Value), (L ++ [(Value.slice none 0 0, Value.slice none 0 0)])[i]? = some p -> L[i]? = some p \/ p = (.slice none 0 0, .slice none 0 0) := fun i p hp => by
  rcases Nat.lt_or_ge i L.length with hk | hk
  ·rw [List.getElem?_append_left hk] at hp
   exact .inl hp
  ·rw [List.getElem?_append_right hk] at hp
   have hi : i - L.length = 0 := by have := (List.getElem?_eq_some_iff.1 hp).1; simp at this; omega
   rw [hi] at hp
   simp at hp
   exact .inr hp.symm
 have hcl : cnt Sl.live (D.S ++ [zeroSl 0]) = cnt Sl.live D.S := by simp [cnt, List.filter_append, zeroSl]
 refine ⟨?_, ?_, own_of_block h.roots (fun k hk => blk2 k (by rw [h.rr k hk]; omega) (by rw [h.rr k hk]; omega) (by rw [h.rr k hk]; omega)), by simp [h.len], fun i s p hs hp => ?_, ?_, fun b hb' => ?_, fun b hb' => ?_, fun i p b hp hb' => ?_, fun i p b hp hb' => ?_, fun b hb' => ?_⟩
 ·have := (h.head.of_block (blk db (by rw [h.rdb]; omega) (by rw [h.rdb]; omega))).set 0 (.slice a' (D.S.length + 1) c')
  show IsCells _ db #[.slice a' (D.S ++ [zeroSl 0]).length c', .slice ra D.roots.length rcap, .int .i64 (cnt Sl.live (D.S ++ [zeroSl 0]) : Int)]
  rw [hn1, hcl]
  simpa using this
 ·show World.ownsRow _ 0 90 8 (.slice a' (D.S ++ [zeroSl 0]).length c') (D.S ++ [zeroSl 0]).length (rowOf (D.S ++ [zeroSl 0]) (L ++ [(.slice none 0 0, .slice none 0 0)]))
  rw [hn1, rowOf_snoc h.len]
  exact own_of_block hown (fun k hk => Below.heap_setCell _ _ _ _ (hnd k hk))
 ·rcases hold i s p hs hp with ⟨h1, h2⟩ | ⟨rfl, rfl⟩
  ·obtain ⟨v1, v2⟩ := h.vals i s p h1 h2
   exact ⟨own_of_block v1 (fun b hb' => blk2 b (by rw [h.rat i p b h2 hb']; omega) (by rw [h.rat i p b h2 hb']; omega) (by rw [h.rat i p b h2 hb']; omega)),
    own_of_block v2 (fun b hb' => blk2 b (by rw [h.rk i p b h2 hb']; omega) (by rw [h.rk i p b h2 hb']; omega) (by rw [h.rk i p b h2 hb']; omega))⟩
  ·exact ⟨own_nil _ _ _ _, own_nil _ _ _ _⟩
 ·rw [ro1 (by rw [h.rdb]; omega) (by rw [h.rdb]; omega), h.rdb]
 ·refine roN_same ?_
  have hb2 : (Value.slice a' (D.S ++ [zeroSl 0]).length c').ownBlock = some b := hb'
  rw [hn1] at hb2
  exact hb2
 ·rw [ro1 (by rw [h.rr b hb']; omega) (by rw [h.rr b hb']; omega), h.rr b hb']
 ·rcases holdL i p hp with h1 | rfl
  ·rw [ro1 (by rw [h.rat i p b h1 hb']; omega) (by rw [h.rat i p b h1 hb']; omega), h.rat i p b h1 hb']
  ·cases hb'
 ·rcases holdL i p hp with h1 | rfl
  ·rw [ro1 (by rw [h.rk i p b h1 hb']; omega) (by rw [h.rk i p b h1 hb']; omega), h.rk i p b h1 hb']
  ·cases hb'
 ·have hz : (w'.setCell ⟨db, 0, none⟩ (.slice a' (D.S.length + 1) c')).heap.size = w'.heap.size := by simp [World.setCell]
  rw [hz]
  unfold roN at hb'
  split at hb'
  ·rename_i e
   exact (own_block_lt hown b e).2
  ·split at hb'
   ·exact absurd rfl hb'
   ·exact Nat.lt_of_lt_of_le (h.lt b hb') hg.size
end
end Go.Proofs.YtmapmkogjhinmaaGreat
