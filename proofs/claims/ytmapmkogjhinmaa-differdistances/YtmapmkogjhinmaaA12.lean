/- There and back, in plain: a tree that was put in stands there. -/
import Derived.Test.YtmapmkogjhinmaaA11
import Derived.Test.YtmapmkogjhinmaaA04
import Derived.Test.YtmapmkogjhinmaaA06
import Derived.Test.YtmapmkogjhinmaaA03
import Derived.Deep.RegionHeld3
import Derived.OwnWalk
import Derived.Deep.DeepCutAuto
import Derived.Test.YtmapmkogjhinmaaA02
import Derived.Deep.RegionHeld
namespace Go.Proofs.Ytmapmkogjhinmaa
open Go.RowKit
set_option linter.unusedVariables false
set_option linter.unusedSimpArgs false
def HoldT (E : Dc) (P : Nat -> Prop) : (n : Nat) -> T n -> Nat -> Prop
 | 0, _, _ => False
 | n + 1, t, h => P h /\ ∃ s, sl E h = some s /\ s.kind = (t : Nd (T n)).kind /\ (s.kind = 2 -> s.text = (t : Nd (T n)).text) /\ (s.kind ≠ 2 -> s.kind = 1 /\ s.name = (t : Nd (T n)).name /\ s.attrs = (t : Nd (T n)).attrs) /\ (kidsT (t : Nd (T n))).length = s.kids.length /\ ∀ (i : Nat) (k : T n) (c : Nat), (kidsT (t : Nd (T n)))[i]? = some k -> s.kids[i]? = some c -> HoldT E P n k c
theorem HoldT.mono {E E' : Dc} {P P' : Nat -> Prop} (hP : ∀ x, P x -> P' x) (hs : ∀ x, P x -> sl E' x = sl E x) : ∀ (n : Nat) (t : T n) (h : Nat), HoldT E P n t h -> HoldT E' P' n t h
 | 0, _, _, h => h.elim
 | n + 1, t, h, H => by
  obtain ⟨h1, s, h2, h3, h4, h5, h6, h7⟩ := H
  exact ⟨hP _ h1, s, (hs _ h1).trans h2, h3, h4, h5, h6, fun i k c hk hc => HoldT.mono hP hs n k c (h7 i k c hk hc)⟩
theorem grow_hold : ∀ (n : Nat) (t : T n) (p : Nat) (D : Dc), Sane D -> cnt takenB D.S + ndT n t <= 4096 -> (p = 0 \/ ∃ q, sl D p = some q) -> okT n t ->
  ∃ N, Grown D (growD n t p D).1 p N [(growD n t p D).2] (ndT n t) (htT n t) /\ HoldT (growD n t p D).1 (fun x => x ∈ N) n t (growD n t p D).2 := by
 intro n
 induction n with
 | zero => intro t; cases t
 | succ n ih =>
  intro t p D hs hc hp hok
  have hlist : ∀ (l : List (T n)) (h : Nat) (D : Dc), Sane D -> cnt takenB D.S + (l.map (ndT n)).sum <= 4096 -> (h = 0 \/ ∃ q, sl D h = some q) -> (∀ k ∈ l, okT n k) ->
    ∃ N, Grown D (growK (growD n) h l D).1 h N (growK (growD n) h l D).2 (l.map (ndT n)).sum ((l.map (htT n)).foldl max 0) /\ l.length = (growK (growD n) h l D).2.length /\
     ∀ (i : Nat) (k : T n) (c : Nat), l[i]? = some k -> (growK (growD n) h l D).2[i]? = some c -> HoldT (growK (growD n) h l D).1 (fun x => x ∈ N) n k c := by
   intro l
   induction l with
   | nil =>
    intro h D hs _ _ _
    exact ⟨[], Grown.none hs h, rfl, fun i k c hk => by simp at hk⟩
   | cons k r ihl =>
    intro h D hs hc hh hk
    simp only [List.map_cons, List.sum_cons] at hc
    obtain ⟨N1, g1, o1⟩ := ih k h D hs (by omega) hh (hk k (by simp))
    have hh1 : h = 0 \/ ∃ q, sl (growD n k h D).1 h = some q := hh.imp id (fun ⟨q, hq⟩ => ⟨q, by
     rw [g1.old h (fun e => ?_)]
     ·exact hq
     ·have := (g1.new h e).1
      rw [hq] at this
      cases this⟩)
    obtain ⟨N2, g2, e2, o2⟩ := ihl h (growD n k h D).1 g1.sane (by rw [g1.tk]; omega) hh1 (fun x hx => hk x (by simp [hx]))
    refine ⟨N1 ++ N2, ?_, by simp [growK, e2], fun i k' c hk' hc' => ?_⟩
    ·have := g1.cons g2
     rw [List.map_cons, List.sum_cons, List.map_cons, foldl_max_cons]
     exact this
    ·cases i with
     | zero =>
      simp only [List.getElem?_cons_zero, Option.some.injEq] at hk' hc'
      subst hk'
      have hc2 : (growD n k h D).2 = c := by simpa [growK] using hc'
      rw [<- hc2]
      refine HoldT.mono (fun x hx => List.mem_append.2 (.inl hx)) (fun x hx => g2.old x (fun h2 => ?_)) n k _ o1
      obtain ⟨s, h3, _⟩ := g1.kids x hx
      rw [(g2.new x h2).1] at h3
      cases h3
     | succ i =>
      simp only [List.getElem?_cons_succ] at hk'
      have hc2 : (growK (growD n) h r (growD n k h D).1).2[i]? = some c := by simpa [growK] using hc'
      exact HoldT.mono (fun x hx => List.mem_append.2 (.inr hx)) (fun _ _ => rfl) n k' c (o2 i k' c hk' hc2)
  have hnd : ndT (n + 1) t = ((kidsT t).map (ndT n)).sum + 1 := rfl
  rw [hnd] at hc
  obtain ⟨ho, hks⟩ := hok
  obtain ⟨s1, s2, s3, s4, s5, s6, s7, s8, s9, s10⟩ := seed_facts hs (by omega) t p ho
  have hsl : sl (seed D t p) (seedH D) = some (mkS (genAt (freeD D).2 (freeD D).1 + 1) t p []) := by unfold sl; rw [s6]; exact s7
  obtain ⟨N, g, el, oh⟩ := hlist (kidsT t) (seedH D) (seed D t p) s1 (by rw [s3]; omega) (.inr ⟨_, hsl⟩) hks
  obtain ⟨g1, g2, g3, g4⟩ := Grown.node hs (by omega) t p hp ho g (fun h2 => by
   have : kidsT t = [] := by unfold kidsT; rw [if_neg (by omega)]
   rw [this]
   rfl)
  have hN : seedH D ∉ N := fun e => by
   have := (g.new _ e).1
   rw [hsl] at this
   cases this
  have hsl2 := fun x => sl_setS (s' := { mkS (genAt (freeD D).2 (freeD D).1 + 1) t p [] with kids := (growK (growD n) (seedH D) (kidsT t) (seed D t p)).2 }) g4 rfl rfl x
  have e1 : (growD (n + 1) t p D).1 = setS (growK (growD n) (seedH D) (kidsT t) (seed D t p)).1 (freeD D).1 { mkS (genAt (freeD D).2 (freeD D).1 + 1) t p [] with kids := (growK (growD n) (seedH D) (kidsT t) (seed D t p)).2 } := by
   show setKI _ _ _ = _
   exact setKI_some g4 _
  rw [<- e1] at hsl2
  refine ⟨seedH D :: N, g1, by simp [growD], { mkS (genAt (freeD D).2 (freeD D).1 + 1) t p [] with kids := (growK (growD n) (seedH D) (kidsT t) (seed D t p)).2 }, (hsl2 _).trans (if_pos g3), rfl, fun h2 => ?_, fun h2 => ?_, el, fun i k c hk hc' => ?_⟩
  ·have h2' : t.kind = 2 := h2
   simp [mkS, h2']
  ·have h2' : t.kind ≠ 2 := h2
   have := (mkS_own (g := 0) (p := 0) (ks := []) ho).2
   exact ⟨by show t.kind = 1; omega, by simp [mkS, h2'], by simp [mkS, h2']⟩
  ·refine HoldT.mono (fun x hx => List.mem_cons_of_mem _ hx) (fun x hx => ?_) n k c (oh i k c hk hc')
   refine (hsl2 x).trans (if_neg (fun e => hN ?_))
   rw [<- at_same g3 e]
   exact hx
theorem htT_pos : ∀ (n : Nat) (t : T n), 1 <= htT n t
 | 0, t => by cases t
 | n + 1, t => by rw [htT]; omega
end Go.Proofs.Ytmapmkogjhinmaa
/- A list of edits on a document, and a document of a forest, in plain. -/
namespace Go.Proofs.Ytmapmkogjhinmaa
open Go.RowKit
set_option linter.unusedVariables false
set_option linter.unusedSimpArgs false
def D0 : Dc := ⟨[], []⟩
theorem sl_D0 (h : Nat) : sl D0 h = none := by
 cases e : sl D0 h with
 | none => rfl
 | some s =>
  obtain ⟨i, -, h2, -⟩ := sl_live e
  simp [D0] at h2
theorem lst_D0 (p : Nat) : lst D0 p = [] := by
 by_cases h : p = 0
 ·subst h; rfl
 ·simp [lst, h, sl_D0]
theorem wf_D0 : WF D0 := by
 refine ⟨⟨by simp [D0], fun i s h => by simp [D0] at h⟩, fun i s h => by simp [D0] at h, fun i s h => by simp [D0] at h, fun i s h => by simp [D0] at h, fun i s h => by simp [D0] at h, ⟨fun _ => 0, fun h s e => (by rw [sl_D0] at e; cases e)⟩, fun h s e => (by rw [sl_D0] at e; cases e), fun p _ h hh => (by rw [lst_D0] at hh; cases hh), fun p => (by rw [lst_D0]; exact List.nodup_nil)⟩
def docD {n : Nat} (L : List (T n)) : Nat -> Dc
 | 0 => D0
 | k + 1 => match L[k]? with
  | none => docD L k
  | some t => (insD (docD L k) 2 0 n t).1
theorem wf_doc {n : Nat} (L : List (T n)) : ∀ k, WF (docD L k)
 | 0 => wf_D0
 | k + 1 => by
  unfold docD
  split
  ·exact wf_doc L k
  ·exact (wf_doc L k).insD _ _ _ _
theorem docD_step {n : Nat} {L : List (T n)} {k : Nat} {t : T n} (h : L[k]? = some t) : docD L (k + 1) = (insD (docD L k) 2 0 n t).1 := by rw [docD, h]
def chkF {n : Nat} : List (T n) -> Int
 | [] => 0
 | t :: r => if (chk n t 1 0).2 ≠ 0 then (chk n t 1 0).2 else chkF r
def canE {n : Nat} (L : List (T n)) : Int := if chkF L ≠ 0 then chkF L else if 4096 < (L.map (ndT n)).sum then 2 else 0
theorem chkF_all {n : Nat} {L : List (T n)} (h : ∀ (j : Nat) (t : T n), L[j]? = some t -> (chk n t 1 0).2 = 0) : chkF L = 0 := by
 induction L with
 | nil => rfl
 | cons a r ih =>
  have h0 := h 0 a rfl
  have hr := ih (fun j t hj => h (j + 1) t (by simpa using hj))
  simp [chkF, h0, hr]
theorem chkF_at {n : Nat} {L : List (T n)} {i : Nat} {t : T n} (h : ∀ (j : Nat) (t : T n), j < i -> L[j]? = some t -> (chk n t 1 0).2 = 0) (ht : L[i]? = some t) (he : (chk n t 1 0).2 ≠ 0) : chkF L = (chk n t 1 0).2 := by
 induction L generalizing i with
 | nil => simp at ht
 | cons a r ih =>
  cases i with
  | zero =>
   simp at ht
   subst ht
   simp [chkF, he]
  | succ i =>
   have h0 := h 0 a (by omega) rfl
   have hr := ih (i := i) (fun j t hj hj2 => h (j + 1) t (by omega) (by simpa using hj2)) (by simpa using ht)
   simp [chkF, h0, hr]
theorem canE_at {n : Nat} {L : List (T n)} {i : Nat} {t : T n} (h : ∀ (j : Nat) (t : T n), j < i -> L[j]? = some t -> (chk n t 1 0).2 = 0) (ht : L[i]? = some t) (he : (chk n t 1 0).2 ≠ 0) : canE L = (chk n t 1 0).2 := by
 have := chkF_at h ht he
 unfold canE
 rw [this, if_pos he]
theorem canE_all {n : Nat} {L : List (T n)} (h : ∀ (j : Nat) (t : T n), L[j]? = some t -> (chk n t 1 0).2 = 0) : canE L = if 4096 < (L.map (ndT n)).sum then 2 else 0 := by
 have := chkF_all h
 unfold canE
 rw [this, if_neg (by simp)]
theorem canE_ok {n : Nat} {L : List (T n)} (h : canE L = 0) : (∀ (j : Nat) (t : T n), L[j]? = some t -> (chk n t 1 0).2 = 0) /\ (L.map (ndT n)).sum <= 4096 := by
 unfold canE at h
 split at h
 ·rename_i h1
  exact absurd h h1
 ·rename_i h1
  split at h
  ·cases h
  ·rename_i h2
   refine ⟨fun j t hj => ?_, by omega⟩
   clear h h2
   induction L generalizing j with
   | nil => simp at hj
   | cons a r ih =>
    simp only [chkF] at h1
    by_cases ha : (chk n a 1 0).2 = 0
    ·cases j with
     | zero =>
      simp at hj
      subst hj
      exact ha
     | succ j =>
      rw [if_neg (by simpa using ha)] at h1
      exact ih h1 j (by simpa using hj)
    ·rw [if_pos ha] at h1
     exact absurd ha h1
theorem insE_root {D : Dc} {n : Nat} {t : T n} (hc : (chk n t 1 0).2 = 0) : insE D 2 0 n t = if 4096 < cnt takenB D.S + ndT n t then 33 else 0 := by
 obtain ⟨-, -, h3⟩ := chk_ok n t 1 0 (by omega) (by omega) (by omega) hc
 have e1 : isPlaceB 2 0 = true := by decide
 have e2 : placeE D 2 0 = (0, 0) := by simp [placeE]
 have e3 : (ups D 0).length = 0 := by simp [ups_zero]
 unfold insE
 rw [if_neg (by rw [e1]; simp), if_neg (by simp [hc]), e2, if_neg (by simp), e3, if_neg (by omega)]
theorem insD_cnt {D : Dc} (hw : WF D) {n : Nat} {t : T n} (h : insE D 2 0 n t = 0) : cnt takenB (insD D 2 0 n t).1.S = cnt takenB D.S + ndT n t := by
 obtain ⟨N, g, s, k1, k2⟩ := ins_grown hw h
 have e2 : placeE D 2 0 = (0, 0) := by simp [placeE]
 unfold insD
 rw [if_pos h]
 show cnt takenB (putD _ _ _ _ _).S = _
 rw [putD_same k1 k2, <- g.tk, e2]
 unfold setL
 rw [if_pos rfl]
theorem sum_upto (l : List Nat) (i : Nat) : (l.take i).sum <= l.sum := by
 conv => rhs; rw [<- List.take_append_drop i l, List.sum_append]
 omega
theorem sum_more {n : Nat} {L : List (T n)} {i : Nat} {t : T n} (ht : L[i]? = some t) : ((L.take (i + 1)).map (ndT n)).sum = ((L.take i).map (ndT n)).sum + ndT n t := by
 rw [take_more ht, List.map_append, List.sum_append]
 simp
theorem docD_cnt {n : Nat} {L : List (T n)} (hc : ∀ (j : Nat) (t : T n), L[j]? = some t -> (chk n t 1 0).2 = 0) : ∀ i, i <= L.length -> ((L.take i).map (ndT n)).sum <= 4096 -> cnt takenB (docD L i).S = ((L.take i).map (ndT n)).sum
 | 0, _, _ => by simp [docD, D0, cnt]
 | i + 1, hi, hs => by
  obtain ⟨t, ht⟩ : ∃ t, L[i]? = some t := ⟨_, List.getElem?_eq_getElem (by omega)⟩
  rw [sum_more ht] at hs ⊢
  have ih := docD_cnt hc i (by omega) (by omega)
  have he : insE (docD L i) 2 0 n t = 0 := by rw [insE_root (hc i t ht), ih, if_neg (by omega)]
  rw [docD_step ht, insD_cnt (wf_doc L i) he, ih]
theorem docD_next {n : Nat} {L : List (T n)} (hc : ∀ (j : Nat) (t : T n), L[j]? = some t -> (chk n t 1 0).2 = 0) {i : Nat} {t : T n} (ht : L[i]? = some t) (hs : ((L.take i).map (ndT n)).sum <= 4096) : insE (docD L i) 2 0 n t = if 4096 < ((L.take (i + 1)).map (ndT n)).sum then 33 else 0 := by
 have hi := (List.getElem?_eq_some_iff.1 ht).1
 rw [insE_root (hc i t ht), docD_cnt hc i (by omega) hs, sum_more ht]
end Go.Proofs.Ytmapmkogjhinmaa
/- A forest's nodes as they end, in plain; a forest of a document is the one that it was made of. -/
namespace Go.Proofs.Ytmapmkogjhinmaa
open Go.RowKit
set_option linter.unusedVariables false
set_option linter.unusedSimpArgs false
def knT {α : Type} (t : Nd α) : Kn := ⟨t.kind, t.name, t.attrs, t.text⟩
def posL {α : Type} (f : α -> Nat -> List (Kn × Nat)) : List α -> Nat -> List (Kn × Nat)
 | [], _ => []
 | k :: r, o => f k o ++ posL f r (o + (f k o).length)
def posT (el : Bool) : (n : Nat) -> T n -> Nat -> List (Kn × Nat)
 | 0, _, _ => []
 | n + 1, t, o => posL (posT el n) (if el = true then kidsT (t : Nd (T n)) else (t : Nd (T n)).kids) o ++ [(knT (t : Nd (T n)), o)]
def posF (el : Bool) {n : Nat} (L : List (T n)) : List (Kn × Nat) := posL (posT el n) L 0
def WPo (o : Nat) (E : List (Kn × Nat)) : Prop := ∀ (i : Nat) (x : Kn × Nat), E[i]? = some x -> o <= x.2 /\ x.2 <= o + i /\ ∀ (j : Nat) (y : Kn × Nat), E[j]? = some y -> x.2 <= o + j -> j < i -> x.2 <= y.2
theorem WPo.nil (o : Nat) : WPo o [] := fun i x h => by simp at h
theorem WPo.append {o : Nat} {E F : List (Kn × Nat)} (hE : WPo o E) (hF : WPo (o + E.length) F) : WPo o (E ++ F) := by
 intro i x hx
 rcases Nat.lt_or_ge i E.length with hi | hi
 ·rw [List.getElem?_append_left hi] at hx
  obtain ⟨h1, h2, h3⟩ := hE i x hx
  exact ⟨h1, h2, fun j y hy h4 h5 => by
   rw [List.getElem?_append_left (by omega)] at hy
   exact h3 j y hy h4 h5⟩
 ·rw [List.getElem?_append_right hi] at hx
  obtain ⟨h1, h2, h3⟩ := hF _ x hx
  exact ⟨by omega, by omega, fun j y hy h4 h5 => by
   rw [List.getElem?_append_right (by omega)] at hy
   exact h3 _ y hy (by omega) (by omega)⟩
theorem WPo.own {o : Nat} {E : List (Kn × Nat)} (hE : WPo o E) (k : Kn) : WPo o (E ++ [(k, o)]) := by
 intro i x hx
 rcases Nat.lt_or_ge i E.length with hi | hi
 ·rw [List.getElem?_append_left hi] at hx
  obtain ⟨h1, h2, h3⟩ := hE i x hx
  exact ⟨h1, h2, fun j y hy h4 h5 => by
   rw [List.getElem?_append_left (by omega)] at hy
   exact h3 j y hy h4 h5⟩
 ·have hie : i = E.length := by
   have := (List.getElem?_eq_some_iff.1 hx).1
   simp at this
   omega
  subst hie
  rw [List.getElem?_append_right (Nat.le_refl _)] at hx
  simp at hx
  subst hx
  exact ⟨Nat.le_refl _, by show o <= o + E.length; omega, fun j y hy h4 h5 => by
   rw [List.getElem?_append_left h5] at hy
   exact (hE j y hy).1⟩
theorem posL_wp {α : Type} {f : α -> Nat -> List (Kn × Nat)} (hf : ∀ k o, WPo o (f k o)) : ∀ (L : List α) (o : Nat), WPo o (posL f L o)
 | [], o => WPo.nil o
 | k :: r, o => (hf k o).append (posL_wp hf r _)
theorem posT_wp (el : Bool) : ∀ (n : Nat) (t : T n) (o : Nat), WPo o (posT el n t o)
 | 0, t, o => WPo.nil o
 | n + 1, t, o => (posL_wp (fun k o => posT_wp el n k o) _ o).own _
theorem posF_wp (el : Bool) {n : Nat} (L : List (T n)) : WP (posF el L) := by
 intro i hi
 have hw := posL_wp (fun k o => posT_wp el n k o) L 0
 have hx : (posF el L)[i]? = some (posF el L)[i] := List.getElem?_eq_getElem hi
 obtain ⟨h1, h2, h3⟩ := hw i _ hx
 have e : fsN (posF el L) i = (posF el L)[i].2 := by unfold fsN; rw [hx]
 refine ⟨by rw [e]; omega, fun j hj hj2 => ?_⟩
 have hy : (posF el L)[j]? = some (posF el L)[j] := List.getElem?_eq_getElem (by omega)
 have e2 : fsN (posF el L) j = (posF el L)[j].2 := by unfold fsN; rw [hy]
 rw [e, e2]
 rw [e] at hj
 exact h3 j _ hy (by omega) hj2
theorem Cl.all (E : List (Kn × Nat)) : Cl E 0 E.length := ⟨Nat.zero_le _, Nat.le_refl _, fun _ _ _ => Nat.zero_le _⟩
theorem posL_len {α : Type} {f : α -> Nat -> List (Kn × Nat)} {g : α -> Nat} (hf : ∀ k o, (f k o).length = g k) : ∀ (L : List α) (o : Nat), (posL f L o).length = (L.map g).sum
 | [], o => rfl
 | k :: r, o => by rw [posL, List.length_append, hf, posL_len hf r]; simp
theorem posT_len : ∀ (n : Nat) (t : T n) (o : Nat), (posT true n t o).length = ndT n t
 | 0, t, o => rfl
 | n + 1, t, o => by
  rw [posT, List.length_append, posL_len (fun k o => posT_len n k o), if_pos rfl]
  rfl
theorem posF_len {n : Nat} (L : List (T n)) : (posF true L).length = (L.map (ndT n)).sum := posL_len (fun k o => posT_len n k o) L 0
def EqN (x y : Kn × Nat) : Prop := x.2 = y.2 /\ x.1.kind = y.1.kind /\ (x.1.kind = 2 -> x.1.text = y.1.text) /\ (x.1.kind ≠ 2 -> x.1.name = y.1.name /\ x.1.attrs = y.1.attrs)
def EqP (E F : List (Kn × Nat)) : Prop := E.length = F.length /\ ∀ (i : Nat) (x y : Kn × Nat), E[i]? = some x -> F[i]? = some y -> EqN x y
theorem EqP.nil : EqP [] [] := ⟨rfl, fun i x y h => by simp at h⟩
theorem EqP.append {E F E' F' : List (Kn × Nat)} (h : EqP E F) (h' : EqP E' F') : EqP (E ++ E') (F ++ F') := by
 refine ⟨by simp [h.1, h'.1], fun i x y hx hy => ?_⟩
 rcases Nat.lt_or_ge i E.length with hi | hi
 ·rw [List.getElem?_append_left hi] at hx
  rw [List.getElem?_append_left (by rw [<- h.1]; exact hi)] at hy
  exact h.2 i x y hx hy
 ·rw [List.getElem?_append_right hi] at hx
  rw [List.getElem?_append_right (by rw [<- h.1]; exact hi), <- h.1] at hy
  exact h'.2 _ x y hx hy
theorem EqP.one {x y : Kn × Nat} (h : EqN x y) : EqP [x] [y] := ⟨rfl, fun i a b ha hb => by
 cases i with
 | zero => simp at ha hb; subst ha hb; exact h
 | succ i => simp at ha⟩
theorem posL_eq {α β : Type} {f : α -> Nat -> List (Kn × Nat)} {g : β -> Nat -> List (Kn × Nat)} : ∀ (L : List α) (M : List β) (o : Nat), L.length = M.length -> (∀ (i : Nat) (a : α) (b : β) (o : Nat), L[i]? = some a -> M[i]? = some b -> EqP (f a o) (g b o)) -> EqP (posL f L o) (posL g M o)
 | [], [], o, _, _ => EqP.nil
 | [], b :: M, o, h, _ => by simp at h
 | a :: L, [], o, h, _ => by simp at h
 | a :: L, b :: M, o, h, hf => by
  have h0 := hf 0 a b o rfl rfl
  rw [posL, posL]
  refine h0.append ?_
  rw [h0.1]
  exact posL_eq L M _ (by simpa using h) (fun i x y o hx hy => hf (i + 1) x y o (by simpa using hx) (by simpa using hy))
theorem hold_pos {E : Dc} {P : Nat -> Prop} : ∀ (n m : Nat) (t : T n) (h o : Nat), HoldT E P n t h -> htT n t <= m + 1 -> EqP (posT false (m + 1) (subT E m h) o) (posT true n t o)
 | 0, _, _, _, _, h, _ => h.elim
 | n + 1, m, t, h, o, H, hm => by
  obtain ⟨h1, s, h2, h3, h4, h5, h6, h7⟩ := H
  have hs : slD E h = s := by simp [slD, h2]
  have hle : ∀ k ∈ kidsT (t : Nd (T n)), htT n k <= m := fun k hk => by
   have := (foldl_max_ge ((kidsT (t : Nd (T n))).map (htT n)) 0).2 (htT n k) (List.mem_map_of_mem hk)
   have hht : htT (n + 1) t = ((kidsT (t : Nd (T n))).map (htT n)).foldl max 0 + 1 := rfl
   omega
  have hl : lst E h = s.kids := lst_of h2
  have e1 : posT false (m + 1) (subT E m h) o = posL (posT false m) (kidT E m h) o ++ [(knT (mkN s (kidT E m h)), o)] := by
   unfold subT
   rw [hs]
   rfl
  have e2 : posT true (n + 1) t o = posL (posT true n) (kidsT (t : Nd (T n))) o ++ [(knT (t : Nd (T n)), o)] := rfl
  rw [e1, e2]
  refine EqP.append ?_ (EqP.one ⟨rfl, h3, h4, fun e => (h5 e).2⟩)
  cases m with
  | zero =>
   have hnil : kidsT (t : Nd (T n)) = [] := List.eq_nil_iff_forall_not_mem.2 (fun k hk => by have := hle k hk; have := htT_pos n k; omega)
   rw [hnil]
   exact EqP.nil
  | succ m =>
   rw [kidT_succ, hl]
   refine posL_eq _ _ o (by rw [List.length_map]; exact h6.symm) (fun i a b o' ha hb => ?_)
   rw [List.getElem?_map] at ha
   obtain ⟨c, hc, rfl⟩ := Option.map_eq_some_iff.1 ha
   exact hold_pos n m b c o' (h7 i b c hb hc) (hle b (List.mem_of_getElem? hb))
theorem docD_hold {n : Nat} {L : List (T n)} (hc : ∀ (j : Nat) (t : T n), L[j]? = some t -> (chk n t 1 0).2 = 0) (hs : (L.map (ndT n)).sum <= 4096) : ∀ k, k <= L.length -> (docD L k).roots.length = k /\ cnt Sl.live (docD L k).S = ((L.take k).map (ndT n)).sum /\
  ∀ (i : Nat) (t : T n) (h : Nat), L[i]? = some t -> (docD L k).roots[i]? = some h -> HoldT (docD L k) (fun x => ∃ s, sl (docD L k) x = some s) n t h
 | 0, _ => ⟨rfl, by simp [docD, D0, cnt], fun i t h _ hh => by simp [docD, D0] at hh⟩
 | k + 1, hk => by
  obtain ⟨t, ht⟩ : ∃ t, L[k]? = some t := ⟨_, List.getElem?_eq_getElem (by omega)⟩
  obtain ⟨i1, i2, i3⟩ := docD_hold hc hs k (by omega)
  have hw := wf_doc L k
  have hsu : ((L.take k).map (ndT n)).sum <= 4096 := by
   have := sum_upto (L.map (ndT n)) k
   rw [<- List.map_take] at this
   omega
  have hsu2 : ((L.take (k + 1)).map (ndT n)).sum <= 4096 := by
   have := sum_upto (L.map (ndT n)) (k + 1)
   rw [<- List.map_take] at this
   omega
  have he : insE (docD L k) 2 0 n t = 0 := by rw [docD_next hc ht hsu, if_neg (by omega)]
  rw [docD_step ht]
  obtain ⟨h1, h2, h3, h4, h5⟩ := insE_ok he
  obtain ⟨o1, o2, o3⟩ := chk_ok n t 1 0 (by omega) (by omega) (by omega) h2
  have e2 : placeE (docD L k) 2 0 = (0, 0) := by simp [placeE]
  obtain ⟨N, g, o⟩ := grow_hold n t 0 (docD L k) hw.sane h5 (.inl rfl) o1
  obtain ⟨_, _, s, k1, k2⟩ := ins_grown hw he
  rw [e2] at k1 k2
  generalize hD : docD L k = D at *
  have ed : (insD D 2 0 n t).1 = setL (growD n t 0 D).1 0 (D.roots ++ [(growD n t 0 D).2]) := by
   unfold insD
   rw [if_pos he]
   show putD _ _ _ _ _ = _
   rw [e2, putD_same k1 k2]
   have e3 : lst (growD n t 0 D).1 0 = D.roots := by
    show (if (0 : Nat) = 0 then (growD n t 0 D).1.roots else _) = _
    rw [if_pos rfl, g.roots]
   rw [e3]
   simp [whereN, ins]
  have esl : ∀ x, sl (setL (growD n t 0 D).1 0 (D.roots ++ [(growD n t 0 D).2])) x = sl (growD n t 0 D).1 x := fun x => by
   unfold setL
   rw [if_pos rfl]
   rfl
  have hnew : HoldT (setL (growD n t 0 D).1 0 (D.roots ++ [(growD n t 0 D).2])) (fun x => ∃ s, sl (setL (growD n t 0 D).1 0 (D.roots ++ [(growD n t 0 D).2])) x = some s) n t (growD n t 0 D).2 :=
   HoldT.mono (fun x hx => by
    obtain ⟨s, h, _⟩ := g.kids x hx
    exact ⟨s, (esl x).trans h⟩) (fun x _ => esl x) n t _ o
  rw [ed]
  refine ⟨?_, ?_, fun i t' h hi hh => ?_⟩
  ·unfold setL
   rw [if_pos rfl]
   show (D.roots ++ [_]).length = _
   simp [i1]
  ·rw [sum_more ht, <- i2, <- g.cl]
   unfold setL
   rw [if_pos rfl]
  ·have hr : (setL (growD n t 0 D).1 0 (D.roots ++ [(growD n t 0 D).2])).roots = D.roots ++ [(growD n t 0 D).2] := by
    unfold setL
    rw [if_pos rfl]
   rw [hr] at hh
   rcases Nat.lt_or_ge i D.roots.length with hlt | hge
   ·rw [List.getElem?_append_left hlt] at hh
    refine HoldT.mono (fun x hx => ?_) (fun x hx => ?_) n t' h (i3 i t' h hi hh)
    ·obtain ⟨s, hx⟩ := hx
     refine ⟨s, (esl x).trans ((g.old x (fun e => ?_)).trans hx)⟩
     rw [(g.new x e).1] at hx
     cases hx
    ·obtain ⟨s, hx⟩ := hx
     exact (esl x).trans (g.old x (fun e => by rw [(g.new x e).1] at hx; cases hx))
   ·have hie : i = D.roots.length := by
     have := (List.getElem?_eq_some_iff.1 hh).1
     simp at this
     omega
    subst hie
    rw [List.getElem?_append_right (Nat.le_refl _)] at hh
    simp at hh
    subst hh
    rw [i1] at hi
    rw [hi] at ht
    cases ht
    exact hnew
def outM {n : Nat} (L : List (T n)) : List (T 64) := (docD L L.length).roots.map (subT (docD L L.length) 63)
theorem outM_eq {n : Nat} {L : List (T n)} (hce : canE L = 0) : EqP (posF false (outM L)) (posF true L) /\ cnt Sl.live (docD L L.length).S = (posF true L).length := by
 obtain ⟨hc, hs⟩ := canE_ok hce
 obtain ⟨h1, h2, h3⟩ := docD_hold hc hs L.length (Nat.le_refl _)
 rw [List.take_length] at h2
 refine ⟨posL_eq _ _ 0 (by unfold outM; rw [List.length_map]; exact h1) (fun i a b o ha hb => ?_), by rw [posF_len]; exact h2⟩
 unfold outM at ha
 rw [List.getElem?_map] at ha
 obtain ⟨c, hcx, rfl⟩ := Option.map_eq_some_iff.1 ha
 have hb' := (chk_ok n b 1 0 (by omega) (by omega) (by omega) (hc i b hb)).2.2
 exact hold_pos n 63 b c o (h3 i b c hb hcx) (by omega)
theorem EqN.same {x x' y y' : Kn × Nat} (h : EqN x x') (h' : EqN y y') : sameK x.1 y.1 = sameK x'.1 y'.1 := by
 obtain ⟨-, a1, a2, a3⟩ := h
 obtain ⟨-, b1, b2, b3⟩ := h'
 unfold sameK
 rw [a1, b1]
 by_cases hk : x'.1.kind = y'.1.kind
 ·by_cases h2 : x'.1.kind = 2
  ·rw [if_pos h2, if_pos h2, a2 (by rw [a1]; exact h2), b2 (by rw [b1, <- hk]; exact h2)]
  ·rw [if_neg h2, if_neg h2, (a3 (by rw [a1]; exact h2)).1, (a3 (by rw [a1]; exact h2)).2, (b3 (by rw [b1, <- hk]; exact h2)).1, (b3 (by rw [b1, <- hk]; exact h2)).2]
 ·simp [hk]
theorem EqP.fs {E F : List (Kn × Nat)} (h : EqP E F) (i : Nat) : fsN E i = fsN F i := by
 unfold fsN
 cases he : E[i]? with
 | none =>
  have : F[i]? = none := by
   rw [List.getElem?_eq_none_iff] at he ⊢
   rw [<- h.1]; exact he
  rw [this]
 | some x =>
  have hi := (List.getElem?_eq_some_iff.1 he).1
  obtain ⟨y, hy⟩ : ∃ y, F[i]? = some y := ⟨_, List.getElem?_eq_getElem (by rw [<- h.1]; exact hi)⟩
  rw [hy]
  exact (h.2 i x y he hy).1
theorem EqP.turn {A A' B B' : List (Kn × Nat)} (h : EqP A A') (h' : EqP B B') (i j : Nat) : turnN A B i j = turnN A' B' i j := by
 have some_of : ∀ {E F : List (Kn × Nat)}, EqP E F -> ∀ (i : Nat), (E[i]? = none /\ F[i]? = none) \/ ∃ x y, E[i]? = some x /\ F[i]? = some y /\ EqN x y := fun {E F} h i => by
  cases he : E[i]? with
  | none =>
   refine .inl ⟨rfl, ?_⟩
   rw [List.getElem?_eq_none_iff] at he ⊢
   rw [<- h.1]; exact he
  | some x =>
   have hi := (List.getElem?_eq_some_iff.1 he).1
   obtain ⟨y, hy⟩ : ∃ y, F[i]? = some y := ⟨_, List.getElem?_eq_getElem (by rw [<- h.1]; exact hi)⟩
   exact .inr ⟨x, y, rfl, hy, h.2 i x y he hy⟩
 unfold turnN
 rcases some_of h i with ⟨e1, e2⟩ | ⟨x, y, e1, e2, e3⟩
 ·rw [e1, e2]
 ·rcases some_of h' j with ⟨g1, g2⟩ | ⟨u, v, g1, g2, g3⟩
  ·rw [e1, e2, g1, g2]
  ·rw [e1, e2, g1, g2]
   show (if sameK x.1 u.1 then 0 else 1) = if sameK y.1 v.1 then 0 else 1
   rw [e3.same g3]
theorem EqP.zs {A A' B B' : List (Kn × Nat)} (h : EqP A A') (h' : EqP B B') : ∀ (f a b c d : Nat), zs A B f a b c d = zs A' B' f a b c d
 | 0, _, _, _, _ => rfl
 | f + 1, a, b, c, d => by
  rw [Ytmapmkogjhinmaa.zs, Ytmapmkogjhinmaa.zs, h.turn h', h.fs, h'.fs, EqP.zs h h' f, EqP.zs h h' f, EqP.zs h h' f, EqP.zs h h' f]
theorem EqP.Z {A A' B B' : List (Kn × Nat)} (h : EqP A A') (h' : EqP B B') (a b c d : Nat) : Z A B a b c d = Z A' B' a b c d := h.zs h' _ a b c d
end Go.Proofs.Ytmapmkogjhinmaa
/- Small things. -/
namespace Go.Proofs.Ytmapmkogjhinmaa
open Go.RowKit
set_option linter.unusedVariables false
set_option linter.unusedSimpArgs false
theorem info40 : InfoOf Try.prog 99 (.agg #[.string ⟨#[]⟩, .string ⟨#[]⟩]) 2 32 := by unfold InfoOf; kernel_rfl
theorem info25 : InfoOf Try.prog 36 (.agg #[.int .i64 0, .string ⟨#[]⟩, .slice none 0 0, .string ⟨#[]⟩, .slice none 0 0]) 5 88 := by unfold InfoOf; kernel_rfl
theorem AttrsR.toAt {w : World} {lo hi : Nat} {a : Option Addr} {l : List (ByteArray × ByteArray)} (h : AttrsR w (fun b => lo <= b /\ b < hi) a l) : AttrsAt w lo hi a l := by
 intro i p hp
 obtain ⟨b, o, h1, ⟨h2, h3⟩, h4, h5⟩ := h i p hp
 exact ⟨b, o, h1, h2, h3, h4, h5⟩
theorem TreeR.toAt {w : World} {lo hi : Nat} : ∀ {n : Nat} {v : Array Value} {t : T n}, TreeR w (fun b => lo <= b /\ b < hi) n v t -> TreeAt w lo hi n v t
 | 0, _, _, h => h.elim
 | n + 1, v, t, h => by
  obtain ⟨a, ac, ka, kc, h1, h2, h3, h4, h5, h6, h7⟩ := h
  refine ⟨a, ac, ka, kc, h1, h2, h3, h4, h5, h6.toAt, fun i k hk => ?_⟩
  obtain ⟨b, o, u, g1, ⟨g2, g3⟩, g4, g5, g6⟩ := h7 i k hk
  exact ⟨b, o, u, g1, g2, g3, g4, g5, TreeR.toAt g6⟩
end Go.Proofs.Ytmapmkogjhinmaa
/- A list of trees that is being made. -/
namespace Go.Proofs.Ytmapmkogjhinmaa
open Go.RowKit
set_option linter.unusedVariables false
set_option linter.unusedSimpArgs false
theorem step_app {P : Program} {t e : TypeId} {z : Value} {size bytes : Nat} {w : World} {ops : Array Oper} {o : Oper} {ac : Act} {K : Act -> World -> Prop} {Q : Exit -> Act -> World -> Prop} {E : Prop} (hgd : o.guard = none) (s x : Operand)
  (ho : o.op = .call { callee := .builtin .append, args := #[s, x], argTypes := #[t, t] }) (ht : P.underlying t = some (.slice e)) (hi : InfoOf P e z size bytes) (hzs : z.cells.size = size) (hsz : 0 < size)
  (base : Nat) (v : Value) (n : Nat) (xs : List Value) (hs : ac.eval s = v) (hown : w.ownsRow base e size v n xs) (a : Option Addr) (m c : Nat) (news : List Value) (hx : ac.eval x = .slice a m c) (hl : news.length = m * size)
  (hnews : ∀ j u, news[j]? = some u -> ∃ ad, a = some ad /\ w.cell? (ad.add j) = some u) (h1 : ∀ u ∈ news, u.oneCell' = true) (h63 : n + m <= maxLen) (hbytes : (n + m) * bytes <= 140737488355328) (hbase : base <= w.heap.size)
  (hK : ∀ v' w', w'.ownsRow base e size v' (n + m) (xs ++ news) -> w.grownBy w' v.ownBlock -> (v' = .slice none 0 0 ↔ v = .slice none 0 0 /\ m = 0) -> (v'.ownBlock = v.ownBlock \/ v'.ownBlock = some w.heap.size) -> K (ac.put o.dst v') w') :
  if Region.wanted o (yielded ops ac.tmps) = true then Oper.wp P o ac w K Q else E := by
 have hw : Region.wanted o (yielded ops ac.tmps) = true := by simp [Region.wanted, hgd]
 rw [if_pos hw]
 obtain ⟨v', w', hr, h2, h3, h4, h5⟩ := run_app (ty := o.type) ht hi hzs hsz w base v n xs hown a m c news hl hnews h1 h63 hbytes hbase
 unfold Oper.wp execOp
 simp only [ho, resolve, invoke, builtin, Sem.run_bind, Sem.run_pure, Result.andThen_ok, List.map_toArray, List.map_cons, List.map_nil, hs, hx, hr]
 exact hK v' w' h2 h3 h4 h5
theorem KidsAt.after {w w' : World} {lo n : Nat} {ka : Option Addr} {L : List (T n)} (h : KidsAt w lo w.heap.size n ka L) (hb : Below w.heap.size w w') : KidsAt w' lo w'.heap.size n ka L := fun i k hk => by
 obtain ⟨b, o, u, g1, g2, g3, g4, g5, g6⟩ := h.below hb (Nat.le_refl _) i k hk
 exact ⟨b, o, u, g1, g2, Nat.lt_of_lt_of_le g3 hb.size, g4, g5, g6.mono (Nat.le_refl _) hb.size⟩
structure OutSt (w wr : World) (m : Nat) (N : List (T m)) (c : Nat) (la : Option Addr) (lcap : Nat) (xs : List Value) : Prop where
 len : N.length = c
 own : wr.ownsRow w.heap.size 36 5 (.slice la c lcap) c xs
 kids : CopiesAt wr (fun b => w.heap.size <= b /\ b < wr.heap.size /\ (Value.slice la c lcap).ownBlock ≠ some b) m xs N
 bel : Below w.heap.size w wr
theorem OutSt.nil (w : World) (m : Nat) : OutSt w w m [] 0 none 0 [] := ⟨rfl, ⟨rfl, .inl ⟨rfl, rfl⟩⟩, CopiesAt.nil _ _ _, Below.refl _ _⟩
theorem OutSt.made {w wr : World} {m lcap : Nat} {la : Option Addr} (hown : wr.ownsRow w.heap.size 36 5 (.slice la 0 lcap) 0 []) (hb : Below w.heap.size w wr) : OutSt w wr m [] 0 la lcap [] := ⟨rfl, hown, CopiesAt.nil _ _ _, hb⟩
theorem OutSt.below {w wr w2 : World} {m : Nat} {N : List (T m)} {c : Nat} {la : Option Addr} {lcap : Nat} {xs : List Value} (h : OutSt w wr m N c la lcap xs) (hb : Below wr.heap.size wr w2) : OutSt w w2 m N c la lcap xs := by
 have hs := hb.size
 have hbl := h.bel.size
 refine ⟨h.len, own_of_block h.own (fun k hk => hb.block k (own_block_lt h.own k hk).2), h.kids.to (fun b hb' => ⟨hb'.1, by omega, hb'.2.2⟩) (fun b o hb' => hb.cell (p := ⟨b, o, none⟩) hb'.2.1), h.bel.trans (hb.mono hbl)⟩
theorem OutSt.step {w wr w2 w3 : World} {m : Nat} {N : List (T m)} {c : Nat} {la : Option Addr} {lcap : Nat} {xs : List Value} (h : OutSt w wr m N c la lcap xs) {k : T m}
  {u : Array Value} (hu : TreeAt w2 wr.heap.size w2.heap.size m u k) (hb : Below wr.heap.size wr w2) {o : Obj} {la' : Option Addr} {lcap' : Nat} (hown : w3.ownsRow w.heap.size 36 5 (.slice la' (c + 1) lcap') (c + 1) (xs ++ u.toList))
  (hg : (w2.alloc o).grownBy w3 (Value.slice la c lcap).ownBlock) (hat : (Value.slice la' (c + 1) lcap').ownBlock = (Value.slice la c lcap).ownBlock \/ (Value.slice la' (c + 1) lcap').ownBlock = some (w2.heap.size + 1)) :
  OutSt w w3 m (N ++ [k]) (c + 1) la' lcap' (xs ++ u.toList) := by
 have hs := hb.size
 have hs3 : w2.heap.size + 1 <= w3.heap.size := by have := hg.size; simpa using this
 have hbl := h.bel.size
 have hox := own_block_lt h.own
 have far : ∀ b, b < w2.heap.size -> (Value.slice la c lcap).ownBlock ≠ some b -> w3.heap[b]? = w2.heap[b]? := fun b hb1 hb2 =>
  (hg.block b (by simp; omega) (fun e => hb2 e.symm)).trans (Below.heap_alloc _ _ _ hb1)
 have far2 : ∀ b, b < wr.heap.size -> (Value.slice la c lcap).ownBlock ≠ some b -> w3.heap[b]? = wr.heap[b]? := fun b hb1 hb2 => (far b (by omega) hb2).trans (hb.block b hb1)
 have hnew : ∀ b, b < w2.heap.size -> (Value.slice la c lcap).ownBlock ≠ some b -> (Value.slice la' (c + 1) lcap').ownBlock ≠ some b := fun b h1 h2 e => by
  rcases hat with hat | hat
  ·rw [hat] at e; exact h2 e
  ·rw [hat] at e; simp only [Option.some.injEq] at e; omega
 refine ⟨by simp [h.len], hown, ?_, ?_⟩
 ·refine CopiesAt.snoc (h.kids.to (fun b hb' => ⟨hb'.1, by omega, hnew b (by omega) hb'.2.2⟩) (fun b o hb' => World.cell?_of_block (w := wr) (a := ⟨b, o, none⟩) (far2 b hb'.2.1 hb'.2.2))) ?_
  have hne : ∀ b, wr.heap.size <= b -> (Value.slice la c lcap).ownBlock ≠ some b := fun b h1 e => by have := hox _ e; omega
  exact hu.toR.to (fun b hb' => ⟨by omega, by omega, hnew b hb'.2 (hne b hb'.1)⟩) (fun b o hb' => World.cell?_of_block (w := w2) (a := ⟨b, o, none⟩) (far b hb'.2 (hne b hb'.1)))
 ·exact (h.bel.trans (hb.mono hbl)).trans ⟨hg.os, hg.tape, hg.output, by omega, fun k hk => far k (by omega) (fun e => by have := hox _ e; omega)⟩
theorem OutSt.done {w wr : World} {m : Nat} {N : List (T m)} {c : Nat} {la : Option Addr} {lcap : Nat} {xs : List Value} (h : OutSt w wr m N c la lcap xs) : KidsAt wr w.heap.size wr.heap.size m la N /\ c <= lcap := by
 obtain ⟨hlc, hxl, hrow⟩ := row_cell h.own
 refine ⟨fun i k hk => ?_, hlc⟩
 obtain ⟨_, _, hkids⟩ := h.kids
 obtain ⟨u, h1, h2, h3⟩ := hkids i k hk
 have hj : ∀ j, j < 5 -> ∃ g, la = some ⟨g, 0, none⟩ /\ w.heap.size <= g /\ g < wr.heap.size /\ wr.cell? ⟨g, i * 5 + j, none⟩ = u[j]? := fun j hj => by
  have hu := h2 j hj
  rw [Array.getElem?_eq_getElem (by omega)] at hu
  obtain ⟨g, e1, e2, e3, e4⟩ := hrow _ _ hu
  exact ⟨g, e1, e2, e3, by rw [e4, Array.getElem?_eq_getElem (by omega)]⟩
 obtain ⟨g, rfl, hg1, hg2, _⟩ := hj 0 (by omega)
 refine ⟨g, 0, u, rfl, by omega, by omega, h1, fun j hj' => ?_, (h3.to (R' := fun b => w.heap.size <= b /\ b < wr.heap.size) (fun b hb => ⟨hb.1, hb.2.1⟩) (fun b o hb => rfl)).toAt⟩
 obtain ⟨g', e1, _, _, e4⟩ := hj j hj'
 cases e1
 rw [Nat.zero_add, e4]
end Go.Proofs.Ytmapmkogjhinmaa
/- ends: a forest's nodes as they end, by the program. -/
namespace Go.Proofs.Ytmapmkogjhinmaa
open Go.RowKit
set_option linter.unusedVariables false
set_option linter.unusedSimpArgs false
set_option maxRecDepth 100000
set_option maxHeartbeats 4000000
theorem infoEn : InfoOf Try.prog 60 (.agg #[.int .i64 0, .string ⟨#[]⟩, .slice none 0 0, .string ⟨#[]⟩, .slice none 0 0, .int .i64 0]) 6 96 := by unfold InfoOf; kernel_rfl
def endv (x : Kn) (aa : Option Addr) (ac : Nat) (f : Nat) : Array Value := #[.int .i64 x.kind, .string x.name, .slice aa x.attrs.length ac, .string x.text, .slice none 0 0, .int .i64 (f : Int)]
theorem endv_one (x : Kn) (aa : Option Addr) (ac : Nat) (f : Nat) : ∀ u ∈ (endv x aa ac f).toList, u.oneCell' = true := by
 intro u hu
 simp only [endv, List.mem_cons, List.not_mem_nil, or_false] at hu
 rcases hu with rfl | rfl | rfl | rfl | rfl | rfl <;> rfl
def EndsAt (w : World) (lo hi : Nat) (xs : List Value) (P : List (Kn × Nat)) : Prop :=
 xs.length = P.length * 6 /\ ∀ (i : Nat) (p : Kn × Nat), P[i]? = some p -> ∃ aa ac, (∀ j, j < 6 -> xs[i * 6 + j]? = (endv p.1 aa ac p.2)[j]?) /\ AttrsAt w lo hi aa p.1.attrs /\ p.1.attrs.length <= maxA /\ p.1.attrs.length <= ac
theorem EndsAt.of_cells {w w' : World} {lo hi : Nat} {xs : List Value} {P : List (Kn × Nat)} (h : EndsAt w lo hi xs P) (hc : ∀ b o, lo <= b -> b < hi -> w'.cell? ⟨b, o, none⟩ = w.cell? ⟨b, o, none⟩) : EndsAt w' lo hi xs P :=
 ⟨h.1, fun i p hp => by
  obtain ⟨aa, ac, h2, h3, h4, h5⟩ := h.2 i p hp
  exact ⟨aa, ac, h2, h3.of_cells hc, h4, h5⟩⟩
theorem EndsAt.snoc {w : World} {lo hi : Nat} {xs : List Value} {P : List (Kn × Nat)} (h : EndsAt w lo hi xs P) {x : Kn} {aa : Option Addr} {ac f : Nat} (h2 : AttrsAt w lo hi aa x.attrs) (h3 : x.attrs.length <= maxA) (h4 : x.attrs.length <= ac) : EndsAt w lo hi (xs ++ (endv x aa ac f).toList) (P ++ [(x, f)]) := by
 refine ⟨by simp [h.1, endv]; omega, fun i p hp => ?_⟩
 rcases Nat.lt_or_ge i P.length with hi' | hi'
 ·rw [List.getElem?_append_left hi'] at hp
  obtain ⟨aa', ac', g2, g3⟩ := h.2 i p hp
  refine ⟨aa', ac', fun j hj => ?_, g3⟩
  rw [List.getElem?_append_left (by rw [h.1]; omega)]
  exact g2 j hj
 ·have hie : i = P.length := by
   have := (List.getElem?_eq_some_iff.1 hp).1
   simp at this
   omega
  subst hie
  rw [List.getElem?_append_right (Nat.le_refl _)] at hp
  simp at hp
  subst hp
  refine ⟨aa, ac, fun j hj => ?_, h2, h3, h4⟩
  rw [List.getElem?_append_right (by rw [h.1]; omega), h.1]
  simp
def EndsP (w : World) (lo hi base : Nat) (v : Value) (Q : List (Kn × Nat)) (e : Ending) (w' : World) : Prop :=
 ∃ la' lcap' xs', e = .returned (.slice la' Q.length lcap') /\ w'.ownsRow base 60 6 (.slice la' Q.length lcap') Q.length xs' /\ EndsAt w' lo hi xs' Q /\ Turn (fun b => v.ownBlock = some b) w w' /\ ∀ b, (Value.slice la' Q.length lcap').ownBlock = some b -> v.ownBlock = some b \/ w.heap.size <= b
structure EnSt (w wr : World) (lo hi base : Nat) (v : Value) (Q : List (Kn × Nat)) (la : Option Addr) (lcap : Nat) (xs : List Value) : Prop where
 own : wr.ownsRow base 60 6 (.slice la Q.length lcap) Q.length xs
 ends : EndsAt wr lo hi xs Q
 turn : Turn (fun b => v.ownBlock = some b) w wr
 blk : ∀ b, (Value.slice la Q.length lcap).ownBlock = some b -> v.ownBlock = some b \/ w.heap.size <= b
theorem EnSt.turn2 {w wr w' : World} {lo hi base : Nat} {v : Value} {Q : List (Kn × Nat)} {la : Option Addr} {lcap : Nat} {xs : List Value} (h : EnSt w wr lo hi base v Q la lcap xs) (ht : Turn (fun b => (Value.slice la Q.length lcap).ownBlock = some b \/ wr.heap.size <= b) wr w') : Turn (fun b => v.ownBlock = some b) w w' := by
 have hs := h.turn.size
 refine ((h.turn.mono (B := fun b => v.ownBlock = some b \/ w.heap.size <= b) (fun k _ hk => .inl hk)).trans (ht.mono (fun k hk hk2 => ?_))).mono (fun k hk hk2 => ?_)
 ·rcases hk2 with hk2 | hk2
  ·exact h.blk k hk2
  ·omega
 ·rcases hk2 with hk2 | hk2
  ·exact hk2
  ·omega
def EndsAll (n : Nat) : Prop := ∀ (w : World) (lo hi base : Nat) (a : Option Addr) (L : List (T n)) (c : Nat) (la : Option Addr) (lcap : Nat) (xs : List Value) (P : List (Kn × Nat)), KidsAt w lo hi n a L -> hi <= base -> base <= w.heap.size -> L.length <= maxK -> w.ownsRow base 60 6 (.slice la P.length lcap) P.length xs -> EndsAt w lo hi xs P -> P.length + (posL (posT false n) L P.length).length <= 4096 ->
 Calls Try.prog 15 #[.slice a L.length c, .slice la P.length lcap] w (EndsP w lo hi base (.slice la P.length lcap) (P ++ posL (posT false n) L P.length))
theorem posL_take {α : Type} {f : α -> Nat -> List (Kn × Nat)} : ∀ (L : List α) (i o : Nat) (k : α), L[i]? = some k -> posL f (L.take (i + 1)) o = posL f (L.take i) o ++ f k (o + (posL f (L.take i) o).length)
 | [], i, o, k, h => by simp at h
 | a :: r, 0, o, k, h => by
  simp at h
  subst h
  simp [posL]
 | a :: r, i + 1, o, k, h => by
  have := posL_take (f := f) r i (o + (f a o).length) k (by simpa using h)
  rw [List.take_succ_cons, List.take_succ_cons, posL, posL, this]
  simp [List.append_assoc, Nat.add_assoc]
theorem posL_le {α : Type} {f : α -> Nat -> List (Kn × Nat)} : ∀ (L : List α) (i o : Nat), (posL f (L.take i) o).length <= (posL f L o).length
 | [], i, o => by simp
 | a :: r, 0, o => by simp [posL]
 | a :: r, i + 1, o => by
  have := posL_le (f := f) r i (o + (f a o).length)
  rw [List.take_succ_cons, posL, posL, List.length_append, List.length_append]
  omega
theorem ends_n (n : Nat) (ih : ∀ m, n = m + 1 -> EndsAll m) : EndsAll n := by
 intro w lo hi base a L c la lcap xs P hk hhb hbw hl hown hends hlen
 have HK : Hid (KidsAt w lo hi n a L) := hk
 have HIH : Hid (∀ m, n = m + 1 -> EndsAll m) := ih
 have HST : Hid (EnSt w w lo hi base (.slice la P.length lcap) (P ++ posL (posT false n) (L.take 0) P.length) la lcap xs) := by
  have e : P ++ posL (posT false n) (L.take 0) P.length = P := by simp [posL]
  show EnSt _ _ _ _ _ _ _ _ _ _
  rw [e]
  exact ⟨hown, hends, Turn.refl _ _, fun b hb => .inl hb⟩
 have HLE : Hid (∀ i, P.length + (posL (posT false n) (L.take i) P.length).length <= 4096) := fun i => by have := posL_le (f := posT false n) L i P.length; omega
 have HVB : Hid (∀ b, (Value.slice la P.length lcap).ownBlock = some b -> base <= b) := fun b hb => (own_block_lt hown b hb).1
 generalize hQ : P ++ posL (posT false n) L P.length = QE
 have HQE : Hid (P ++ posL (posT false n) L P.length = QE) := hQ
 generalize hv0 : Value.slice la P.length lcap = v0 at *
 have hqs : (P ++ posL (posT false n) (L.take 0) P.length).length = P.length := by simp [posL]
 unfold maxK at hl
 clear hk ih hown hends hQ hlen
 subst hv0
 go_enter Try.func15, Try.ntmps15
 go_wp2
 go_loopw [1, 10] (fun lv iv wr => ∃ (i : Nat) (la1 : Option Addr) (lcap1 : Nat) (xs1 : List Value), i <= L.length /\ iv = .int .i64 (i : Int) /\ lv = .slice la1 (P ++ posL (posT false n) (L.take i) P.length).length lcap1 /\ Hid (EnSt w wr lo hi base (.slice la P.length lcap) (P ++ posL (posT false n) (L.take i) P.length) la1 lcap1 xs1)) (fun _ iv _ => L.length - (intOf iv).toNat)
 case atStart => exact ⟨0, la, lcap, xs, Nat.zero_le _, rfl, by rw [hqs], HST⟩
 case round =>
  obtain ⟨i, la1, lcap1, xs1, hi', rfl, rfl, hst⟩ := hrel
  clear HST hqs
  have hbs := hst.out.turn.size
  by_cases hlt : i < L.length
  ·have tl : (i : Int) < (L.length : Int) := by omega
   have t0 : (0 : Int) <= (i : Int) := by omega
   obtain ⟨k, hk⟩ : ∃ k, L[i]? = some k := ⟨_, List.getElem?_eq_getElem hlt⟩
   have HNB : Hid (∀ W, Turn (fun b => (Value.slice la P.length lcap).ownBlock = some b) w W -> KidsAt W lo hi n a L) := fun W hW => HK.out.turn hW (by omega) (fun k h1 h2 h3 => by have := HVB.out k h3; omega)
   obtain ⟨b, o, kk, nm, aa, al, ac, tx, kA, kl, kc, rfl, hlo, hbl, c0, c1, c2, c3, c4, hT⟩ := (HNB.out wr hst.out.turn).get hk
   obtain ⟨m, rfl⟩ : ∃ m, n = m + 1 := by
    cases n with
    | zero => exact hT.elim
    | succ m => exact ⟨m, rfl⟩
   obtain ⟨aa', ac', kA', kc', he, hal, hkl, hac, hkc, hat, hkd⟩ := id hT
   simp only [tv, Array.mk.injEq, List.cons.injEq, Value.int.injEq, Value.string.injEq, Value.slice.injEq, true_and, and_true] at he
   obtain ⟨rfl, rfl, ⟨rfl, rfl, rfl⟩, rfl, rfl, rfl, rfl⟩ := he
   have hbr : b < wr.heap.size := by omega
   have HTK : Hid (posL (posT false (m + 1)) (L.take (i + 1)) P.length = posL (posT false (m + 1)) (L.take i) P.length ++ (posL (posT false m) k.kids (P.length + (posL (posT false (m + 1)) (L.take i) P.length).length) ++ [(knT k, P.length + (posL (posT false (m + 1)) (L.take i) P.length).length)])) := posL_take L i P.length k hk
   obtain ⟨Q, hQ⟩ : ∃ Q, Q = P ++ posL (posT false (m + 1)) (L.take i) P.length := ⟨_, rfl⟩
   have hQl : Q.length = P.length + (posL (posT false (m + 1)) (L.take i) P.length).length := by rw [hQ, List.length_append]
   have HTQ : Hid (P ++ posL (posT false (m + 1)) (L.take (i + 1)) P.length = Q ++ posL (posT false m) k.kids Q.length ++ [(knT k, Q.length)]) := by
    show _ = _
    rw [HTK.out, hQl, hQ]
    simp [List.append_assoc]
   have HL1 : Q.length + (posL (posT false m) k.kids Q.length).length + 1 <= 4096 := by
    have h1 := HLE.out (i + 1)
    rw [HTK.out, List.length_append, List.length_append] at h1
    rw [hQl]
    simp at h1 ⊢
    omega
   rw [<- hQ] at hst ⊢
   clear hQ hQl HTK hT
   obtain ⟨wA, hwA⟩ : ∃ wA, wA = wr.alloc (.cells #[.int .i64 k.kind, .string k.name, .slice aa k.attrs.length ac, .string k.text, .slice kA k.kids.length kc] 36) := ⟨_, rfl⟩
   have hsA : wA.heap.size = wr.heap.size + 1 := by rw [hwA]; simp
   have htA : Turn (fun _ => False) wr wA := by rw [hwA]; exact (Turn.refl _ _).alloc _
   have hbox : IsCells wA wr.heap.size #[.int .i64 k.kind, .string k.name, .slice aa k.attrs.length ac, .string k.text, .slice kA k.kids.length kc] := by rw [hwA]; exact isCells_new wr _ 36
   have hown1 : wA.ownsRow base 60 6 (.slice la1 Q.length lcap1) Q.length xs1 := own_of_block hst.out.own (fun j hj => htA.block j (own_block_lt hst.out.own j hj).2 (fun h => h))
   have hkA : KidsAt wA lo hi m kA k.kids := KidsAt.turn hkd htA (by omega) (fun _ _ _ h => h)
   have hatA : AttrsAt wA lo hi aa k.attrs := hat.of_cells (fun b o _ h2 => World.cell?_of_block (w := wr) (a := ⟨b, o, none⟩) (htA.block b (by omega) (fun h => h)))
   have henA : EndsAt wA lo hi xs1 Q := hst.out.ends.of_cells (fun b o _ h2 => World.cell?_of_block (w := wr) (a := ⟨b, o, none⟩) (htA.block b (by omega) (fun h => h)))
   have hcal := HIH.out m rfl wA lo hi base kA k.kids kc la1 lcap1 xs1 Q hkA hhb (by omega) hkl hown1 henA (by omega)
   obtain ⟨Q5, hQ5⟩ : ∃ Q5, Q5 = Q ++ posL (posT false m) k.kids Q.length := ⟨_, rfl⟩
   have HL2 : Q5.length + 1 <= 4096 := by rw [hQ5, List.length_append]; omega
   have hHTQ := HTQ.out
   rw [<- hQ5] at hcal hHTQ
   have HTQ5 : Hid (P ++ posL (posT false (m + 1)) (L.take (i + 1)) P.length = Q5 ++ [(knT k, Q.length)]) := hHTQ
   clear hQ5 hHTQ HTQ
   rw [hwA] at hcal
   have HBX : Hid (IsCells wA wr.heap.size #[.int .i64 k.kind, .string k.name, .slice aa k.attrs.length ac, .string k.text, .slice kA k.kids.length kc]) := hbox
   have HTA : Hid (Turn (fun _ => False) wr wA) := htA
   have HSA : Hid (wA.heap.size = wr.heap.size + 1) := hsA
   have HAT : Hid (AttrsAt wA lo hi aa k.attrs) := hatA
   have HWA : Hid (wA = wr.alloc (.cells #[.int .i64 k.kind, .string k.name, .slice aa k.attrs.length ac, .string k.text, .slice kA k.kids.length kc] 36)) := hwA
   have HOB : Hid (∀ j, (Value.slice la1 Q.length lcap1).ownBlock = some j -> j < wr.heap.size) := fun j hj => (own_block_lt hst.out.own j hj).2
   clear hwA hsA htA hbox hown1 hkA hatA henA hat hkd hk HNB
   go_wp2_with fail
   rw [<- HWA.out] at hcal ⊢
   clear HWA c0 c1 c2 c3 c4
   refine hcal.mono ?_
   rintro e w5 ⟨la5, lcap5, xs5, rfl, hown5, hen5, ht5, hblk5⟩
   have hs5 := ht5.size
   have hw5 : wr.heap.size + 1 <= w5.heap.size := by have := HSA.out; omega
   have hx5 : IsCells w5 wr.heap.size #[.int .i64 k.kind, .string k.name, .slice aa k.attrs.length ac, .string k.text, .slice kA k.kids.length kc] := HBX.out.of_block (ht5.block _ (by have := HSA.out; omega) (fun e => by have := HOB.out _ e; omega))
   have g4 := hx5.cell 4
   have gf := hx5.frozen
   obtain ⟨w6, hw6⟩ : ∃ w6, w6 = w5.setCell ⟨wr.heap.size, 4, none⟩ (.slice none 0 0) := ⟨_, rfl⟩
   have hx6 : IsCells w6 wr.heap.size #[.int .i64 k.kind, .string k.name, .slice aa k.attrs.length ac, .string k.text, .slice none 0 0] := by rw [hw6]; exact hx5.set 4 _
   have ht6 : Turn (fun b => b = wr.heap.size) w5 w6 := by rw [hw6]; exact (Turn.refl _ _).setCell (A := fun b => b = wr.heap.size) (p := ⟨wr.heap.size, 4, none⟩) rfl _
   have hs6 : w6.heap.size = w5.heap.size := by rw [hw6]; simp [World.setCell]
   have hnb : ∀ j, (Value.slice la5 Q5.length lcap5).ownBlock = some j -> j ≠ wr.heap.size := fun j hj e => by
    rcases hblk5 j hj with h | h
    ·have := HOB.out j h; omega
    ·have := HSA.out; omega
   have HO6 : Hid (w6.ownsRow base 60 6 (.slice la5 Q5.length lcap5) Q5.length xs5) := own_of_block hown5 (fun j hj => ht6.block j (own_block_lt hown5 j hj).2 (hnb j hj))
   have HE6 : Hid (EndsAt w6 lo hi xs5 Q5) := hen5.of_cells (fun b o _ h2 => World.cell?_of_block (w := w5) (a := ⟨b, o, none⟩) (ht6.block b (by omega) (by omega)))
   have HA6 : Hid (AttrsAt w6 lo hi aa k.attrs) := HAT.out.of_cells (fun b o _ h2 => (World.cell?_of_block (w := w5) (a := ⟨b, o, none⟩) (ht6.block b (by omega) (by omega))).trans (World.cell?_of_block (w := wA) (a := ⟨b, o, none⟩) (ht5.block b (by have := HSA.out; omega) (fun e => by have := (own_block_lt hst.out.own b e).1; omega))))
   have HT6 : Hid (Turn (fun b => (Value.slice la1 Q.length lcap1).ownBlock = some b \/ wr.heap.size <= b) wr w6) := ((HTA.out.mono (fun _ _ h => h.elim)).trans (ht5.mono (fun _ _ h => .inl h))).trans (ht6.mono (fun _ _ h => .inr (by omega)))
   have HB6 : Hid (∀ j, (Value.slice la5 Q5.length lcap5).ownBlock = some j -> (Value.slice la1 Q.length lcap1).ownBlock = some j \/ wr.heap.size <= j) := fun j hj => (hblk5 j hj).imp id (fun h => by have := HSA.out; omega)
   have q0 : w6.cell? ⟨wr.heap.size, 0, none⟩ = some (.int .i64 k.kind) := hx6.cell 0
   have q1 : w6.cell? ⟨wr.heap.size, 1, none⟩ = some (.string k.name) := hx6.cell 1
   have q2 : w6.cell? ⟨wr.heap.size, 2, none⟩ = some (.slice aa k.attrs.length ac) := hx6.cell 2
   have q3 : w6.cell? ⟨wr.heap.size, 3, none⟩ = some (.string k.text) := hx6.cell 3
   have q4 : w6.cell? ⟨wr.heap.size, 4, none⟩ = some (.slice none 0 0) := hx6.cell 4
   have HW6 : Hid (w6 = w5.setCell ⟨wr.heap.size, 4, none⟩ (.slice none 0 0)) := hw6
   have hz : base <= w6.heap.size := by have := HSA.out; omega
   have hQQ : Q.length <= 4096 := by omega
   clear hw6 hx6 hx5 ht6 hs6 hown5 hen5 ht5 hblk5 hcal hnb HBX HAT
   go_upto_region 7 with fail
   rw [<- HW6.out]
   clear HW6 g4 gf
   have tok4 : True := trivial
   go_wp2_with (at_builtin; have _t := tok4; refine wpList_app rfl _ _ rfl Try.underlying52 infoEn rfl (by decide) base (.slice la5 Q5.length lcap5) Q5.length xs5 rfl (own_of_block HO6.out (fun j hj => Below.heap_alloc _ _ _ (own_block_lt HO6.out j hj).2)) (some ⟨w6.heap.size, 0, none⟩) 1 1 (endv (knT k) aa ac Q.length).toList rfl rfl (news_new w6 (endv (knT k) aa ac Q.length) 60) (endv_one _ _ _ _) (by unfold maxLen; omega) (by omega) (by simp; omega) ?_; intro v7 w7 hown7 hg7 _ hat7; clear tok4 _t; obtain ⟨la7, lcap7, hv7⟩ := own_slice hown7; subst hv7)
   have hs7 : w6.heap.size + 1 <= w7.heap.size := by have := hg7.size; simpa using this
   have hlen7 : (Q5 ++ [(knT k, Q.length)]).length = Q5.length + 1 := by simp
   have HST7 : Hid (EnSt w w7 lo hi base (.slice la P.length lcap) (Q5 ++ [(knT k, Q.length)]) la7 lcap7 (xs5 ++ (endv (knT k) aa ac Q.length).toList)) := by
    have far : ∀ b, b < w6.heap.size -> (Value.slice la5 Q5.length lcap5).ownBlock ≠ some b -> w7.heap[b]? = w6.heap[b]? := fun b h1 h2 => (hg7.block b (by simp; omega) (fun e => h2 e.symm)).trans (Below.heap_alloc _ _ _ h1)
    have hok := own_block_lt HO6.out
    refine ⟨by rw [hlen7]; exact hown7, (HE6.out.snoc HA6.out hal hac).of_cells (fun b o _ h2 => World.cell?_of_block (w := w6) (a := ⟨b, o, none⟩) (far b (by omega) (fun e => by have := (hok b e).1; omega))), ?_, fun b hb => ?_⟩
    ·refine hst.out.turn2 (HT6.out.trans ⟨hg7.os, hg7.tape, hg7.output, by omega, fun b h1 h2 => far b h1 (fun e => h2 ?_)⟩)
     exact HB6.out b e
    ·rw [hlen7] at hb
     rcases hat7 with hat7 | hat7
     ·rw [hat7] at hb
      rcases HB6.out b hb with h | h
      ·exact hst.out.blk b h
      ·exact .inr (by omega)
     ·rw [hat7] at hb
      simp at hb
      have := HT6.out.size
      exact .inr (by omega)
   have hfin : (P ++ posL (posT false (m + 1)) (L.take (i + 1)) P.length) = Q5 ++ [(knT k, Q.length)] := HTQ5.out
   clear hown7 hg7 hat7 HE6 HA6 HT6 HB6 HO6 hst HTQ5
   go_roundw
   case rel => exact ⟨i + 1, la7, lcap7, _, by omega, by go_num, by rw [hfin, hlen7], by rw [hfin]; exact HST7⟩
   case measure => simp [intOf]; omega
  ·have hie : i = L.length := by omega
   subst hie
   have hd := hst.out
   rw [List.take_length, HQE.out] at hd
   rw [List.take_length, HQE.out]
   clear hlt
   go_wp2
   go_ret
   exact ⟨la1, lcap1, xs1, rfl, hd.own, hd.ends, hd.turn, hd.blk⟩
theorem ends_any : ∀ n, EndsAll n
 | 0 => ends_n 0 (fun m h => by cases h)
 | n + 1 => ends_n (n + 1) (fun m h => by cases h; exact ends_any n)
end Go.Proofs.Ytmapmkogjhinmaa
/- A drawn region whose last operations turn what its loads read: what the loads read is to be shown anew behind those alone that may come ahead of a load. -/
namespace Go.Proofs.Ytmapmkogjhinmaa
open Go Go.RowKit
set_option linter.unusedVariables false
set_option linter.unusedSimpArgs false
section
variable {P : Program} {ops : Array Oper} {Q : Exit -> Act -> World -> Prop} {md : Region.Mode} {S : World -> Prop} {F : Nat -> Bool}
def AnyF (P : Program) (md : Region.Mode) (ops : Array Oper) (Q : Exit -> Act -> World -> Prop) (S : World -> Prop) (F : Nat -> Bool) : Nat -> Array Bool -> Act -> World -> Prop
 | 0, l, a, w => Region.ready md ops l = [] /\ Q .normal a w
 | n + 1, l, a, w => (Region.ready md ops l = [] -> Q .normal a w) /\ ∀ i ∈ Region.ready md ops l, wpOp P ops Q i (fun a' w' => (F i = true -> S w') /\ AnyF P md ops Q S F n (l.setIfInBounds i true) a' w') a w
theorem AnyF.any : ∀ (n : Nat) (l : Array Bool) (a : Act) (w : World), AnyF P md ops Q S F n l a w -> wpAny P md ops Q n l a w
 | 0, _, _, _, h => h
 | n + 1, _, _, _, h => ⟨h.1, fun i hi => wpOp_mono (fun a' w' h' => AnyF.any n _ a' w' h'.2) (h.2 i hi)⟩
theorem AnyF.first {S2 : World -> Prop} {i : Nat} {oi : Oper} {v : Value} (hi : ops[i]? = some oi) (hsel : Region.noSelect ops = true) (hSi : ∀ w, S2 w -> F i = true -> S w)
  (hQ : ∀ c a w, Q (.panic c) (a.put oi.dst v) w -> Q (.panic c) a w) :
  ∀ (n : Nat) (l : Array Bool) (a : Act) (w : World),
   (∀ (j : Nat) (oj : Oper), ops[j]? = some oj -> j ≠ i -> l.getD j true = false -> (∀ e ∈ oj.after, Region.binds md e = true -> e.on ≠ i) -> ∀ w, (F j = true -> S w) -> S2 w) ->
   (∀ j oj, ops[j]? = some oj -> j ≠ i -> l.getD j true = false -> (∀ e ∈ oj.after, Region.binds md e = true -> e.on ≠ i) -> oi.apart ops oj = true) ->
   i ∈ Region.ready md ops l -> YieldsIf P ops S2 oi v a -> S2 w -> AnyF P md ops Q S F n (l.setIfInBounds i true) (a.put oi.dst v) w -> AnyF P md ops Q S F (n + 1) l a w
 | n, l, a, w, hF, hfree, hr, hy, hS, H => by
  refine ⟨fun h => (by rw [h] at hr; cases hr), fun j hj => ?_⟩
  by_cases hji : j = i
  ·subst hji
   exact hy.wpOp hi hS ⟨hSi w hS, H⟩
  ·obtain ⟨hjun, oj, hoj, hall⟩ := mem_ready.1 hj
   have hnot : ∀ e ∈ oj.after, Region.binds md e = true -> e.on ≠ i := fun e he hb heq => by
    have h1 := hall e he hb
    have h0 := (mem_ready.1 hr).1
    rw [heq] at h1
    rw [Array.getD_eq_getD_getElem?] at h0 h1
    cases hx : l[i]? with
    | none => rw [hx] at h1; simp at h1
    | some b => rw [hx] at h0 h1; simp at h0 h1; rw [h0] at h1; cases h1
   have hun2 : ∀ k, (l.setIfInBounds j true).getD k true = false -> l.getD k true = false := fun k hun => by
    by_cases hjk : j = k
    ·subst hjk; exact hjun
    ·rw [getD_set_ne true hjk] at hun; exact hun
   cases n with
   | zero =>
    have := ready_mono hj hji
    rw [H.1] at this
    cases this
   | succ n =>
    have h2 := wpOp_putIf hoj (hfree j oj hoj hji hjun hnot) (fun cs b => Region.noSelect_spec hsel i oi cs b hi) (fun cs b => Region.noSelect_spec hsel j oj cs b hoj) hQ hy (H.2 j (ready_mono hj hji))
    refine wpOp_mono (fun a' w' h3 => ⟨h3.2.1, AnyF.first hi hsel hSi hQ n (l.setIfInBounds j true) a' w' (fun k ok hk hki hun hno => hF k ok hk hki (hun2 k hun) hno) (fun k ok hk hki hun hno => hfree k ok hk hki (hun2 k hun) hno) (ready_mono hr (Ne.symm hji)) h3.1 (hF j oj hoj hji hjun hnot w' h3.2.1) ?_⟩) h2
    rw [Array.setIfInBounds_comm _ _ hji]
    exact h3.2.2
def waitF (md : Region.Mode) (ops : Array Oper) (F : Nat -> Bool) (l : Array Bool) (i : Nat) : Bool := (List.range ops.size).all fun j => j == i || l.getD j true || F j || ((ops[j]?).map (fun o => o.after.any fun e => Region.binds md e && e.on == i)).getD true
theorem waitF_spec {i : Nat} {l : Array Bool} (h : waitF md ops F l i = true) (j : Nat) (oj : Oper) (hj : ops[j]? = some oj) (hji : j ≠ i) (hun : l.getD j true = false) (hno : ∀ e ∈ oj.after, Region.binds md e = true -> e.on ≠ i) : F j = true := by
 unfold waitF at h
 have h1 := List.all_eq_true.1 h j (List.mem_range.2 (Array.getElem?_eq_some_iff.1 hj).1)
 rw [hj, hun] at h1
 simp only [Option.map_some, Option.getD_some, Bool.or_eq_true, beq_iff_eq, Bool.false_eq_true, or_false] at h1
 rcases h1 with (h1 | h1) | h1
 ·exact absurd h1 hji
 ·exact h1
 ·obtain ⟨k, hk, he⟩ := Array.any_eq_true.1 h1
  simp only [Bool.and_eq_true, beq_iff_eq] at he
  exact absurd he.2 (hno _ (Array.getElem_mem hk) he.1)
theorem AnyF.take {i : Nat} {oi : Oper} {v : Value} {n : Nat} {l : Array Bool} {a : Act} {w : World} (hi : ops[i]? = some oi)
  (hs : Region.noSelect ops = true) (hf : Region.free md ops l i = true) (hr : (Region.ready md ops l).contains i = true) (hF : waitF md ops F l i = true)
  (hQ : ∀ c a w, Q (.panic c) (a.put oi.dst v) w -> Q (.panic c) a w) (hS : S w) (hy : YieldsIf P ops S oi v a)
  (h : AnyF P md ops Q S F n (l.setIfInBounds i true) (a.put oi.dst v) w) : AnyF P md ops Q S F (n + 1) l a w :=
 AnyF.first (S2 := S) hi hs (fun w h _ => h) hQ n l a w (fun j oj hj hji hun hno w hw => hw (waitF_spec hF j oj hj hji hun hno)) (Region.free_spec hi hf) (by simpa using hr) hy hS h
theorem AnyF.pure {i : Nat} {oi : Oper} {v : Value} {n : Nat} {l : Array Bool} {a : Act} {w : World} (hi : ops[i]? = some oi)
  (hs : Region.noSelect ops = true) (hf : Region.free md ops l i = true) (hr : (Region.ready md ops l).contains i = true) (hF : F i = false)
  (hQ : ∀ c a w, Q (.panic c) (a.put oi.dst v) w -> Q (.panic c) a w) (hy : YieldsIf P ops (fun _ => True) oi v a)
  (h : AnyF P md ops Q S F n (l.setIfInBounds i true) (a.put oi.dst v) w) : AnyF P md ops Q S F (n + 1) l a w :=
 AnyF.first (S2 := fun _ => True) hi hs (fun w _ hfi => by rw [hF] at hfi; cases hfi) hQ n l a w (fun j oj hj hji hun hno w hw => trivial) (Region.free_spec hi hf) (by simpa using hr) hy trivial h
theorem AnyF.done {l : Array Bool} {a : Act} {w : World} (hr : Region.ready md ops l = []) (h : Q .normal a w) : ∀ n, AnyF P md ops Q S F n l a w
 | 0 => ⟨hr, h⟩
 | _ + 1 => ⟨fun _ => h, by rw [hr]; simp⟩
theorem AnyF.all {rs : List Nat} {n : Nat} {l : Array Bool} {a : Act} {w : World} (hr : Region.ready md ops l = rs) (hne : rs ≠ [])
  (h : ∀ i ∈ rs, wpOp P ops Q i (fun a' w' => (F i = true -> S w') /\ AnyF P md ops Q S F n (l.setIfInBounds i true) a' w') a w) : AnyF P md ops Q S F (n + 1) l a w :=
 ⟨fun h0 => absurd (hr ▸ h0) hne, hr ▸ h⟩
theorem AnyF.one {i : Nat} {o : Oper} {n : Nat} {l : Array Bool} {a : Act} {w : World} (hr : Region.ready md ops l = [i]) (ho : ops[i]? = some o)
  (h : ∀ K : Act -> World -> Prop, Shut (∀ a w, (F i = true -> S w) -> AnyF P md ops Q S F n (l.setIfInBounds i true) a w -> K a w) -> if Region.wanted o (yielded ops a.tmps) = true then Oper.wp P o a w K Q else K (a.put o.dst undef) w) : AnyF P md ops Q S F (n + 1) l a w :=
 AnyF.all hr (by simp) (fun j hj => by
  cases List.mem_singleton.1 hj
  exact wpOp_step ho (fun K' hK => h K' (fun a w h1 h2 => hK a w ⟨h1, h2⟩)))
theorem AnyF.two {i j : Nat} {o o2 : Oper} {n : Nat} {l : Array Bool} {a : Act} {w : World} (hr : Region.ready md ops l = [i, j]) (ho : ops[i]? = some o) (ho2 : ops[j]? = some o2)
  (h : ∀ K : Act -> World -> Prop, Shut (∀ a w, (F i = true -> S w) -> AnyF P md ops Q S F n (l.setIfInBounds i true) a w -> K a w) -> if Region.wanted o (yielded ops a.tmps) = true then Oper.wp P o a w K Q else K (a.put o.dst undef) w)
  (h2 : ∀ K : Act -> World -> Prop, Shut (∀ a w, (F j = true -> S w) -> AnyF P md ops Q S F n (l.setIfInBounds j true) a w -> K a w) -> if Region.wanted o2 (yielded ops a.tmps) = true then Oper.wp P o2 a w K Q else K (a.put o2.dst undef) w) : AnyF P md ops Q S F (n + 1) l a w :=
 AnyF.all hr (by simp) (fun k hk => by
  rcases List.mem_cons.1 hk with rfl | hk
  ·exact wpOp_step ho (fun K' hK => h K' (fun a w h1 h2 => hK a w ⟨h1, h2⟩))
  ·cases List.mem_singleton.1 hk
   exact wpOp_step ho2 (fun K' hK => h2 K' (fun a w h1 h2 => hK a w ⟨h1, h2⟩)))
theorem wp_region_f {id : Nat} {a : Act} {w : World} (S : World -> Prop) (F : Nat -> Bool) (hm : P.follows .mixedOrders = true)
  (h : AnyF P .any ops Q S F ops.size (Array.replicate ops.size false) a w.drew) : (Code.region id ops true).wp P Q a w :=
 wp_region_any hm (AnyF.any _ _ _ _ h)
end
end Go.Proofs.Ytmapmkogjhinmaa
