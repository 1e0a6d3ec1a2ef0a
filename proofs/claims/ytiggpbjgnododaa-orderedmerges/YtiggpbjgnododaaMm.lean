/- Lists of lists that are handed in; Clone of one, merged: lists merged by halves. -/
import Derived.Test.YtiggpbjgnododaaMt
namespace Go.Proofs.Ytiggpbjgnododaa.T
open Go.RowKit Go.Shelf
set_option linter.unusedVariables false
attribute [local go_sem] Bel.cell

set_option maxRecDepth 100000 in
set_option maxHeartbeats 1000000 in
theorem clone_sl (w : World) (a : Option Addr) (n cap : Nat) (L : List (Int × Int)) (h : Sl w a n cap L) (hn : n ≤ 1048576) :
    Calls Try.prog 78 #[.slice a n cap] w fun e w' => ∃ ra rc, e = .returned (.slice ra n rc) ∧ Mk w w' (.slice ra n rc) n (cellsOf L) := by
  have hxl : (cellsOf L).length = n * 2 := by rw [cellsOf_length, h.len]
  cases a with
  | none =>
    have hc0 := h.nil rfl
    have hle := h.le
    obtain rfl : n = 0 := by omega
    subst hc0
    have hL : L = [] := List.length_eq_zero_iff.1 h.len
    subst hL
    have hq : ∀ w, (binOp .eql 31 (.slice none 0 0) (.slice none 0 0)).run Try.prog w = .ok (.bool true) w := fun _ => by kernel_rfl
    clear h hxl
    go_enter Try.func78, Try.ntmps78
    go_wp2
    go_ret
    exact ⟨none, 0, rfl, ⟨⟨rfl, .inl ⟨rfl, rfl⟩⟩, Below.refl _ _⟩⟩
  | some ad =>
    have Hsrc : Hid (∀ j u, (cellsOf L)[j]? = some u → ∃ ad', some ad = some ad' ∧ (w.alloc (.cells #[] 28)).cell? (ad'.add j) = some u) := cells_src h.sg (bel1 w _)
    have Hxl : Hid ((cellsOf L).length = n * 2) := hxl
    have h1 := cellsOf_one L
    clear h hxl
    have hq : ∀ w, (binOp .eql 31 (.slice (some ad) n cap) (.slice none 0 0)).run Try.prog w = .ok (.bool false) w := fun _ => by kernel_rfl
    go_enter Try.func78, Try.ntmps78
    go_wp2_with (at_builtin; refine wpList_mk rfl _ _ rfl _ 0 [] (Mk.new w) rfl _ n cap (cellsOf L) rfl Hxl.out Hsrc.out h1 (by omega) ?_; intro v' w' m1; have M1 : Hid (Mk w w' v' (0 + n) ([] ++ cellsOf L)) := m1; clear m1)
    all_goals
      obtain ⟨ra, rc, rfl⟩ := own_slice M1.out.own
      go_ret
      have := M1.out
      simp only [Nat.zero_add, List.nil_append] at this
      exact ⟨ra, rc, by rw [Nat.zero_add]; rfl, this⟩

/-- A slice of slices of items. -/
structure Sll (w : World) (a : Option Addr) (n cap : Nat) (LL : List (List (Int × Int))) : Prop where
  len : LL.length = n
  ls : ∀ i L, LL[i]? = some L → ∃ g off ra rc, a = some ⟨g, off, none⟩ ∧ g < w.heap.size ∧ w.cell? ⟨g, off + i, none⟩ = some (.slice ra L.length rc) ∧ Sl w ra L.length rc L
  le : n ≤ cap
  capm : cap ≤ maxLen
  nil : a = none → cap = 0

theorem Sll.below {w w' : World} {a : Option Addr} {n cap : Nat} {LL : List (List (Int × Int))} (h : Sll w a n cap LL) (hb : Below w.heap.size w w') : Sll w' a n cap LL :=
  ⟨h.len, fun i L hL => by
    obtain ⟨g, off, ra, rc, e, h1, h2, h3⟩ := h.ls i L hL
    exact ⟨g, off, ra, rc, e, Nat.lt_of_lt_of_le h1 hb.size, (hb.cell (p := ⟨g, _, none⟩) h1).trans h2, h3.below hb⟩, h.le, h.capm, h.nil⟩

theorem Sll.take {w : World} {a : Option Addr} {n cap : Nat} {LL : List (List (Int × Int))} (h : Sll w a n cap LL) (k : Nat) (hk : k ≤ n) : Sll w a k cap (LL.take k) := by
  have hl := h.len
  have hc := h.le
  refine ⟨by rw [List.length_take]; omega, fun i L hL => ?_, by omega, h.capm, h.nil⟩
  rw [List.getElem?_take] at hL
  split at hL
  · exact h.ls i L hL
  · cases hL

theorem Sll.drop {w : World} {ad : Addr} {n cap : Nat} {LL : List (List (Int × Int))} (h : Sll w (some ad) n cap LL) (k : Nat) (hk : k ≤ n) (h0 : 0 < n) :
    ∃ A, (if cap = k then some ad else some (ad.add k)) = some A ∧ Sll w (some A) (n - k) (cap - k) (LL.drop k) := by
  have hl := h.len
  have hc := h.le
  have hm := h.capm
  have hs : ad.spot = none := by
    obtain ⟨g, off, ra, rc, e, _⟩ := h.ls 0 _ (List.getElem?_eq_getElem (by omega))
    cases e
    rfl
  obtain ⟨b, o, sp⟩ := ad
  simp only at hs
  subst hs
  by_cases e : cap = k
  · refine ⟨_, if_pos e, by rw [List.length_drop]; omega, fun i L hL => ?_, by omega, by omega, (by intro h; cases h)⟩
    have := (List.getElem?_eq_some_iff.1 hL).1
    rw [List.length_drop] at this
    omega
  · refine ⟨_, if_neg e, by rw [List.length_drop]; omega, fun i L hL => ?_, by omega, by omega, (by intro h; cases h)⟩
    rw [List.getElem?_drop] at hL
    obtain ⟨g, off, ra, rc, e', h1, h2, h3⟩ := h.ls (k + i) L hL
    cases e'
    exact ⟨b, o + k, ra, rc, by rw [addr_add], h1, by rw [← h2]; congr 2; omega, h3⟩

theorem tot_take_drop (LL : List (List (Int × Int))) (k : Nat) : tot (LL.take k) + tot (LL.drop k) = tot LL := by rw [← tot_append, List.take_append_drop]

theorem tot_mem {LL : List (List (Int × Int))} {i : Nat} {L : List (Int × Int)} (h : LL[i]? = some L) : L.length ≤ tot LL := by
  have e := tot_take_drop LL i
  have hlt := (List.getElem?_eq_some_iff.1 h).1
  have : LL.drop i = L :: LL.drop (i + 1) := by
    rw [List.drop_eq_getElem_cons hlt]
    congr 1
    exact (List.getElem?_eq_some_iff.1 h).2
  rw [this] at e
  simp only [tot, List.map_cons, List.sum_cons] at e ⊢
  omega

set_option maxRecDepth 100000 in
set_option maxHeartbeats 2000000 in
theorem merged_any : ∀ (N n : Nat), n ≤ N → ∀ (w : World) (a : Option Addr) (cap : Nat) (LL : List (List (Int × Int))), Sll w a n cap LL → tot LL ≤ 8192 → n ≤ 8796093022208 →
    Calls Try.prog 55 #[.func (.func 9) #[] #[], .slice a n cap] w fun e w' => ∃ ra rc, e = .returned (.slice ra (tot LL) rc) ∧ Mk w w' (.slice ra (tot LL) rc) (tot LL) (cellsOf (mgs LL)) := by
  intro N
  induction N with
  | zero =>
    intro n hn w a cap LL h ht hm
    obtain rfl : n = 0 := by omega
    obtain rfl := List.length_eq_zero_iff.1 h.len
    clear h
    go_enter Try.func55, Try.ntmps55
    go_wp2
    go_ret
    exact ⟨none, 0, rfl, ⟨⟨rfl, .inl ⟨rfl, rfl⟩⟩, Below.refl _ _⟩⟩
  | succ N ih =>
    intro n hn w a cap LL h ht hm
    by_cases h0 : n = 0
    · exact ih n (by omega) w a cap LL h ht hm
    · by_cases h1 : n = 1
      · subst h1
        obtain ⟨L, rfl⟩ : ∃ L, LL = [L] := List.length_eq_one_iff.1 h.len
        obtain ⟨g, off, ra, rc, rfl, hg1, hg2, hg3⟩ := h.ls 0 L rfl
        have hL : L.length ≤ 8192 := by rw [tot_one] at ht; exact ht
        have hcl := clone_sl w ra L.length rc L hg3 (by omega)
        rw [Nat.add_zero] at hg2
        rw [tot_one, mgs_one]
        clear h ih ht hg3
        go_enter Try.func55, Try.ntmps55
        go_wp2_with fail
        refine hcl.mono ?_
        rintro e w' ⟨xa, xc, rfl, m1⟩
        have M1 : Hid (Mk w w' (.slice xa L.length xc) L.length (cellsOf L)) := m1
        clear hcl m1
        go_wp2
        go_ret
        exact ⟨xa, xc, rfl, M1.out⟩
      · obtain ⟨ad, rfl⟩ : ∃ ad, a = some ad := by
          cases a with
          | none => have := h.nil rfl; have := h.le; omega
          | some ad => exact ⟨ad, rfl⟩
        obtain ⟨k, hk⟩ : ∃ k, k = n / 2 := ⟨_, rfl⟩
        have hk1 : 1 ≤ k := by omega
        have hk2 : k < n := by omega
        obtain ⟨A, hA, hdr⟩ := h.drop k (by omega) (by omega)
        have htd := tot_take_drop LL k
        have HT : Hid (Sll w (some ad) k cap (LL.take k)) := h.take k (by omega)
        have HD : Hid (Sll w (some A) (n - k) (cap - k) (LL.drop k)) := hdr
        have HM : Hid (mgs LL = mg (mgs (LL.take k)) (mgs (LL.drop k))) := mgs_half LL k
        have c1 : ∀ W, Below w.heap.size w W → Calls Try.prog 55 #[.func (.func 9) #[] #[], .slice (some ad) k cap] W fun e w' => ∃ ra rc, e = .returned (.slice ra (tot (LL.take k)) rc) ∧ Mk W w' (.slice ra (tot (LL.take k)) rc) (tot (LL.take k)) (cellsOf (mgs (LL.take k))) := fun W hW =>
          ih k (by omega) W (some ad) cap (LL.take k) (HT.out.below hW) (by omega) (by omega)
        have c2 : ∀ W, Below w.heap.size w W → Calls Try.prog 55 #[.func (.func 9) #[] #[], .slice (some A) (n - k) (cap - k)] W fun e w' => ∃ ra rc, e = .returned (.slice ra (tot (LL.drop k)) rc) ∧ Mk W w' (.slice ra (tot (LL.drop k)) rc) (tot (LL.drop k)) (cellsOf (mgs (LL.drop k))) := fun W hW =>
          ih (n - k) (by omega) W (some A) (cap - k) (LL.drop k) (HD.out.below hW) (by omega) (by omega)
        have c3 : ∀ W xa xc ya yc, Sl W xa (tot (LL.take k)) xc (mgs (LL.take k)) → Sl W ya (tot (LL.drop k)) yc (mgs (LL.drop k)) → Calls Try.prog 84 #[.func (.func 9) #[] #[], .slice xa (tot (LL.take k)) xc, .slice ya (tot (LL.drop k)) yc] W fun e w' => ∃ ra rc, e = .returned (.slice ra (tot (LL.take k) + tot (LL.drop k)) rc) ∧ Mk W w' (.slice ra (tot (LL.take k) + tot (LL.drop k)) rc) (tot (LL.take k) + tot (LL.drop k)) (cellsOf (mgs LL)) := fun W xa xc ya yc h1 h2 => by
          rw [HM.out]
          exact two_any W xa ya _ _ xc yc _ _ h1 h2 (by omega)
        have hq : (n : Int).tdiv 2 = (k : Int) := by rw [hk, Int.tdiv_eq_ediv_of_nonneg (by omega)]; omega
        have hn1 : (2 : Int) ≤ (n : Int) := by omega
        have hn2 : (n : Int) ≤ 8796093022208 := by omega
        have hk3 : (1 : Int) ≤ (k : Int) := by omega
        have hk4 : (k : Int) < (n : Int) := by omega
        have hcp : (n : Int) ≤ (cap : Int) := by have := h.le; omega
        have hcm : (cap : Int) ≤ 9223372036854775807 := by have := h.capm; unfold maxLen at this; omega
        have hk5 : (k : Int) ≤ (cap : Int) := by omega
        clear ih h hdr hn hm hk
        rw [← htd]
        clear htd
        go_enter Try.func55, Try.ntmps55
        go_wp2
        go_region_with
          (first
            | (go_at_call 55; refine (c1 _ (Below.refl _ _).drew).mono ?_; rintro e w1 ⟨xa, xc, rfl, m1⟩; have M1 : Hid (Mk w w1 (.slice xa (tot (LL.take k)) xc) (tot (LL.take k)) (cellsOf (mgs (LL.take k)))) := Mk.mk m1.own ((Below.refl _ _).drew.trans m1.bel); clear c1 m1)
            | (go_at_call 55; refine (c2 _ M1.out.bel).mono ?_; rintro e w2 ⟨ya, yc, rfl, m2⟩; have M2 : Hid (Mk w1 w2 (.slice ya (tot (LL.drop k)) yc) (tot (LL.drop k)) (cellsOf (mgs (LL.drop k)))) := m2; clear c2 m2)
            | (go_at_call 84; refine (c3 _ _ _ _ _ ((Sl.of_own M1.out.own).below M2.out.bel) (Sl.of_own M2.out.own)).mono ?_; rintro e w3 ⟨za, zc, rfl, m3⟩; have M3 : Hid (Mk w2 w3 (.slice za (tot (LL.take k) + tot (LL.drop k)) zc) (tot (LL.take k) + tot (LL.drop k)) (cellsOf (mgs LL))) := m3; clear c3 m3))
        all_goals
          go_wp2
          go_ret
          have hb2 : Below w.heap.size w w2 := M1.out.bel.trans (M2.out.bel.mono M1.out.bel.size)
          refine ⟨za, zc, rfl, own_base M3.out.own (fun j hj => ?_), hb2.trans (M3.out.bel.mono hb2.size)⟩
          have := (own_block_lt M3.out.own j hj).1
          have := hb2.size
          omega

end Go.Proofs.Ytiggpbjgnododaa.T
