/- Of any two spans of a forest one is around the other, or comes behind it: in plain. -/
import Derived.Test.YtfhbfilmejegcaaChecks
namespace Go.Proofs.Ytfhbfilmejegcaa
open Go.RowKit
set_option linter.unusedVariables false

def Rr (x y : Sp) : Prop := anc x y = true ∨ x.e < y.b
theorem anc_iff {a b : Sp} : anc a b = true ↔ a.b < b.b ∧ b.e < a.e := by simp [anc]
theorem anc_trans {a b c : Sp} (h : anc a b = true) (k : anc b c = true) : anc a c = true := by
  rw [anc_iff] at *
  omega

/-- What is known behind some spans: those seen, the last one's beginning, those open. -/
structure Inv (seen : List Sp) (pv : Option Int) (st : List Sp) : Prop where
  low : ∀ x ∈ seen, x ∈ st ∨ ∃ p, pv = some p ∧ x.e < p
  nest : st.Pairwise fun a b => anc a b = true

theorem pop_split (b : Int) (st : List Sp) : ∃ out, st = pop b st ++ out ∧ ∀ x ∈ out, x.e < b := by
  refine ⟨(st.reverse.takeWhile (fun x => decide (x.e < b))).reverse, ?_, fun x hx => ?_⟩
  · unfold pop
    rw [← List.reverse_append, List.takeWhile_append_dropWhile, List.reverse_reverse]
  · rw [List.mem_reverse] at hx
    have h := List.all_takeWhile (p := fun x : Sp => decide (x.e < b)) (l := st.reverse)
    rw [List.all_eq_true] at h
    simpa using h x hx

theorem nst_all {st : List Sp} {y : Sp} (hn : st.Pairwise fun a b => anc a b = true) (h : nst st y = true) : ∀ x ∈ st, anc x y = true := by
  intro x hx
  unfold nst at h
  rw [Bool.and_eq_true] at h
  rcases List.eq_nil_or_concat st with e | ⟨r, t, e⟩
  · rw [e] at hx; cases hx
  · have e' : st = r ++ [t] := by rw [e]; simp
    subst e'
    have ht : anc t y = true := by simpa using h.2
    rw [List.mem_append] at hx
    rcases hx with hx | hx
    · rw [List.pairwise_append] at hn
      exact anc_trans (hn.2.2 x hx t (by simp)) ht
    · simp at hx
      subst hx
      exact ht

theorem chk_good : ∀ (r seen : List Sp) (pv : Option Int) (st : List Sp) (i : Int), Inv seen pv st → (chkS r pv st i).2 = 0 → (∀ y ∈ r, val y = true) ∧ r.Pairwise Rr ∧ ∀ x ∈ seen, ∀ y ∈ r, Rr x y
  | [], seen, pv, st, i, hI, h => ⟨(fun y hy => by cases hy), List.Pairwise.nil, (fun x _ y hy => by cases hy)⟩
  | y :: r, seen, pv, st, i, hI, h => by
    rw [chkS] at h
    by_cases hv : val y = false
    · rw [if_pos hv] at h; cases h
    · rw [if_neg hv] at h
      have hv' : val y = true := by cases hq : val y <;> simp_all
      by_cases hlow : low pv y = true
      · rw [if_pos hlow] at h; cases h
      · rw [if_neg hlow] at h
        by_cases hn : nst (pop y.b st) y = true
        · rw [if_pos hn] at h
          obtain ⟨out, ho, hout⟩ := pop_split y.b st
          have hnp : (pop y.b st).Pairwise fun a b => anc a b = true := by
            have := hI.nest
            rw [ho, List.pairwise_append] at this
            exact this.1
          have hall := nst_all hnp hn
          have hseen : ∀ x ∈ seen, Rr x y := by
            intro x hx
            rcases hI.low x hx with hs | ⟨p, hp, hxe⟩
            · rw [ho, List.mem_append] at hs
              rcases hs with hs | hs
              · exact .inl (hall x hs)
              · exact .inr (hout x hs)
            · refine .inr ?_
              rw [hp] at hlow
              simp [low] at hlow
              omega
          have hI' : Inv (seen ++ [y]) (some y.b) (pop y.b st ++ [y]) := by
            refine ⟨fun x hx => ?_, ?_⟩
            · rw [List.mem_append] at hx
              rcases hx with hx | hx
              · rcases hI.low x hx with hs | ⟨p, hp, hxe⟩
                · rw [ho, List.mem_append] at hs
                  rcases hs with hs | hs
                  · exact .inl (List.mem_append_left _ hs)
                  · exact .inr ⟨y.b, rfl, hout x hs⟩
                · refine .inr ⟨y.b, rfl, ?_⟩
                  rw [hp] at hlow
                  simp [low] at hlow
                  omega
              · exact .inl (List.mem_append_right _ hx)
            · rw [List.pairwise_append]
              refine ⟨hnp, List.pairwise_singleton _ _, fun a ha b hb => ?_⟩
              simp at hb
              subst hb
              exact hall a ha
          obtain ⟨k1, k2, k3⟩ := chk_good r (seen ++ [y]) (some y.b) (pop y.b st ++ [y]) (i + 1) hI' h
          refine ⟨fun z hz => ?_, ?_, fun x hx z hz => ?_⟩
          · rcases List.mem_cons.1 hz with rfl | hz
            · exact hv'
            · exact k1 z hz
          · rw [List.pairwise_cons]
            exact ⟨fun z hz => k3 y (List.mem_append_right _ (by simp)) z hz, k2⟩
          · rcases List.mem_cons.1 hz with rfl | hz
            · exact hseen x hx
            · exact k3 x (List.mem_append_left _ hx) z hz
        · rw [if_neg hn] at h; cases h

theorem chkP_good {L : List Sp} (h : (chkP L).2 = 0) : (∀ y ∈ L, val y = true) ∧ L.Pairwise Rr := by
  unfold chkP at h
  by_cases hl : 8192 < L.length
  · rw [if_pos hl] at h; cases h
  · rw [if_neg hl] at h
    obtain ⟨h1, h2, -⟩ := chk_good L [] none [] 0 ⟨(fun x hx => by cases hx), List.Pairwise.nil⟩ h
    exact ⟨h1, h2⟩

/-- How many of the five are true. -/
def cnt (l : List Bool) : Int := (l.filter id).length
def five (a b : Sp) : List Bool := [slf a b, anc a b, anc b a, fol a b, fol b a]
theorem val_lt {a : Sp} (h : val a = true) : a.b < a.e := by
  simp [val] at h
  omega
theorem five_self {a : Sp} (h : val a = true) : cnt (five a a) = 1 := by
  have := val_lt h
  have e1 : slf a a = true := by simp [slf]
  have e2 : anc a a = false := by simp [anc]
  have e3 : fol a a = false := by simp [fol]; omega
  rw [five, e1, e2, e3]
  rfl
theorem five_one {a b : Sp} (ha : val a = true) (hb : val b = true) (h : Rr a b) : cnt (five a b) = 1 ∧ cnt (five b a) = 1 := by
  have h1 := val_lt ha
  have h2 := val_lt hb
  rcases h with h | h
  · have e1 := anc_iff.1 h
    have e2 : slf a b = false := by simp [slf]; omega
    have e2' : slf b a = false := by simp [slf]; omega
    have e3 : anc b a = false := by rw [← Bool.not_eq_true, anc_iff]; omega
    have e4 : fol a b = false := by simp [fol]; omega
    have e5 : fol b a = false := by simp [fol]; omega
    rw [five, five, e2, e2', h, e3, e4, e5]
    exact ⟨rfl, rfl⟩
  · have e2 : slf a b = false := by simp [slf]; omega
    have e2' : slf b a = false := by simp [slf]; omega
    have e1 : anc a b = false := by rw [← Bool.not_eq_true, anc_iff]; omega
    have e3 : anc b a = false := by rw [← Bool.not_eq_true, anc_iff]; omega
    have e4 : fol a b = false := by simp [fol]; omega
    have e5 : fol b a = true := by simp [fol]; omega
    rw [five, five, e2, e2', e1, e3, e4, e5]
    exact ⟨rfl, rfl⟩
theorem five_any {L : List Sp} (h : (chkP L).2 = 0) {i k : Nat} {a b : Sp} (ha : L[i]? = some a) (hb : L[k]? = some b) : cnt (five a b) = 1 := by
  obtain ⟨h1, h2⟩ := chkP_good h
  have va := h1 a (List.mem_of_getElem? ha)
  have vb := h1 b (List.mem_of_getElem? hb)
  obtain ⟨hi, ea⟩ := List.getElem?_eq_some_iff.1 ha
  obtain ⟨hk, eb⟩ := List.getElem?_eq_some_iff.1 hb
  rw [List.pairwise_iff_getElem] at h2
  rcases Nat.lt_trichotomy i k with c | c | c
  · have := h2 i k hi hk c
    rw [ea, eb] at this
    exact (five_one va vb this).1
  · subst c
    rw [ha] at hb
    cases hb
    exact five_self va
  · have := h2 k i hk hi c
    rw [ea, eb] at this
    exact (five_one vb va this).2
theorem slf_comm (a b : Sp) : slf b a = slf a b := by
  rw [Bool.eq_iff_iff]
  simp [slf]
  omega
/-- The third law. -/
def thr (a b c : Sp) : Bool := (anc a b && anc b c && !anc a c) || (fol a b && fol b c && !fol a c) || (anc a b && fol a c && !fol b c)
theorem thr_no {a b c : Sp} (hb : val b = true) : (anc a b && anc b c && !anc a c) = false ∧ (fol a b && fol b c && !fol a c) = false ∧ (anc a b && fol a c && !fol b c) = false := by
  have := val_lt hb
  refine ⟨?_, ?_, ?_⟩
  · rw [← Bool.not_eq_true]
    simp [anc]
    omega
  · rw [← Bool.not_eq_true]
    simp [fol]
    omega
  · rw [← Bool.not_eq_true]
    simp [fol, anc]
    omega

theorem anc_fol {a b : Sp} (hb : val b = true) : (anc a b && fol a b) = false := by
  have := val_lt hb
  rw [← Bool.not_eq_true]
  simp [fol, anc]
  omega

end Go.Proofs.Ytfhbfilmejegcaa
