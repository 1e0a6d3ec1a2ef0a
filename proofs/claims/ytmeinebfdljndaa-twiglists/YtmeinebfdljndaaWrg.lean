/- What is wrong with lists: the program's wrong, the document's list. -/
import Derived.Test.YtmeinebfdljndaaCrs
import Derived.Test.YtmeinebfdljndaaJnb
namespace Go.Proofs.Ytmeinebfdljndaa
open Go.RowKit
set_option linter.unusedVariables false
attribute [local go_sem] Bel.cell Bel.fz

def wr1 (L : List Pl) : Int := if 4096 < L.length then 2 else oneS (sps L) none
def wrA : List (List Pl) → Int
  | [] => 0
  | L :: r => if wr1 L = 0 then wrA r else wr1 L
theorem wrA_at {LL : List (List Pl)} {i : Nat} {L : List Pl} (h : LL[i]? = some L) : wrA (LL.drop i) = if wr1 L = 0 then wrA (LL.drop (i + 1)) else wr1 L := by
  have hlt := (List.getElem?_eq_some_iff.1 h).1
  have e : LL.drop i = L :: LL.drop (i + 1) := by
    rw [List.drop_eq_getElem_cons hlt, (List.getElem?_eq_some_iff.1 h).2]
  rw [e, wrA]
theorem wr1_ok {L : List Pl} (h : wr1 L = 0) : L.length ≤ 4096 ∧ oneS (sps L) none = 0 := by
  unfold wr1 at h
  split at h
  · cases h
  · exact ⟨by omega, h⟩
theorem wrA_ok : ∀ {LL : List (List Pl)}, wrA LL = 0 → ∀ L ∈ LL, L.length ≤ 4096 ∧ oneS (sps L) none = 0
  | [], _, L, hL => by cases hL
  | K :: r, h, L, hL => by
    rw [wrA] at h
    by_cases h1 : wr1 K = 0
    · rw [if_pos h1] at h
      rcases List.mem_cons.1 hL with rfl | hL
      · exact wr1_ok h1
      · exact wrA_ok h L hL
    · rw [if_neg h1] at h
      exact absurd h h1
theorem flat_len : ∀ (LL : List (List Pl)), (∀ L ∈ LL, L.length ≤ 4096) → LL.flatten.length ≤ LL.length * 4096
  | [], _ => by simp
  | K :: r, h => by
    have h1 := flat_len r (fun L hL => h L (List.mem_cons_of_mem _ hL))
    have h2 := h K (List.mem_cons_self ..)
    simp only [List.flatten_cons, List.length_append, List.length_cons]
    omega
theorem one_val {L : List Pl} (h : oneS (sps L) none = 0) : ∀ x ∈ L, 1 ≤ x.s.b ∧ x.s.b < x.s.e ∧ 0 ≤ x.s.l ∧ x.s.l < 64 := by
  intro x hx
  have := (oneS_ok h).1 x.s (List.mem_map_of_mem hx)
  rw [val_iff] at this
  exact ⟨this.1, this.2.1, this.2.2.2.1, this.2.2.2.2⟩

/-- What is wrong with lists. -/
def wrE (LL : List (List Pl)) (q : Bool) : Int := if wrA LL = 0 then (if q then 0 else 111) else wrA LL

set_option maxRecDepth 100000 in
set_option maxHeartbeats 4000000 in
theorem wrong_loop (w : World) {LL : List (List Pl)} {a : Option Addr} {ca : Nat} (h : LlAt w a LL) (hk : LL.length ≤ 256) (hv : ∀ L ∈ LL, ∀ x ∈ L, Lvl x.s) (q : Bool)
    (hc : wrA LL = 0 → ∀ X, Below w.heap.size w X → Calls Try.prog 41 #[.slice a LL.length ca] X fun e w' => e = .returned (.bool (!q)) ∧ Hid (Below w.heap.size w w')) (y : Int) (hy : wrE LL q = y) :
    Calls Try.prog 22 #[.slice a LL.length ca] w fun e w' => e = .returned (.int .i64 y) ∧ Below w.heap.size w w' := by
  have HC : Hid (wrA LL = 0 → ∀ X, Below w.heap.size w X → Calls Try.prog 41 #[.slice a LL.length ca] X fun e w' => e = .returned (.bool (!q)) ∧ Hid (Below w.heap.size w w')) := hc
  have HL : Hid (LlAt w a LL ∧ ∀ L ∈ LL, ∀ x ∈ L, Lvl x.s) := ⟨h, hv⟩
  have HY : Hid (wrE LL q = y) := hy
  clear hc h hv hy
  go_enter Try.func22, Try.ntmps22
  go_wp2
  go_loopw [8] (fun u wr => ∃ i : Nat, i ≤ LL.length ∧ u = .int .i64 (i : Int) ∧ Hid (wrA LL = wrA (LL.drop i)) ∧ Hid (Below w.heap.size w wr)) (fun u _ => LL.length - (intOf u).toNat)
  case atStart => exact ⟨0, by omega, rfl, rfl, Below.refl _ _⟩
  case round =>
    obtain ⟨i, hi, rfl, HA, HB⟩ := hrel
    by_cases hlt : i < LL.length
    · obtain ⟨L, hL⟩ : ∃ L, LL[i]? = some L := ⟨_, List.getElem?_eq_getElem hlt⟩
      obtain ⟨b, o, la, lc, rfl, hb, c0, hlc, hp⟩ := HL.out.1.bel HB.out i L hL
      have hvl := HL.out.2 L (List.mem_of_getElem? hL)
      have HA2 : Hid (wrA LL = if wr1 L = 0 then wrA (LL.drop (i + 1)) else wr1 L) := by show _ = _; rw [HA.out, wrA_at hL]
      have hlt9 : (i : Int) < (LL.length : Int) := by omega
      clear hL HA
      by_cases hbig : 4096 < L.length
      · have hy2 : y = 2 := by
          have h1 : wr1 L = 2 := by unfold wr1; rw [if_pos hbig]
          have h2 := HA2.out
          rw [h1, if_neg (by decide)] at h2
          rw [← HY.out]
          unfold wrE
          rw [h2, if_neg (by decide)]
        subst hy2
        have hb9 : (4096 : Int) < (L.length : Int) := by omega
        clear hp hvl HA2 HY HC
        go_wp2
        go_ret
        exact ⟨rfl, HB.out⟩
      · have hb9 : ¬ (4096 : Int) < (L.length : Int) := by omega
        have hrs := trises_any wr (cap := lc) hp (by omega) hvl _ rfl
        have hw1 : wr1 L = oneS (sps L) none := by unfold wr1; rw [if_neg hbig]
        have HA3 : Hid (wrA LL = if oneS (sps L) none = 0 then wrA (LL.drop (i + 1)) else oneS (sps L) none) := by show _ = _; rw [HA2.out, hw1]
        clear hw1 HA2 hp hvl
        generalize oneS (sps L) none = z at hrs HA3
        by_cases hz : z = 0
        · subst hz
          have HA4 : Hid (wrA LL = wrA (LL.drop (i + 1))) := by show _ = _; rw [HA3.out, if_pos rfl]
          clear HA3
          go_wp2_with fail
          with_reducible refine hrs.mono ?_
          rintro e X ⟨rfl, hX⟩
          have HX : Hid (Below w.heap.size w X) := HB.out.trans (hX.mono HB.out.size)
          clear hX hrs
          go_wp2
          go_roundw
          case rel => exact ⟨i + 1, by omega, by go_num, HA4, HX⟩
          case measure => simp [intOf]; omega
        · have hyz : y = z := by
            have h2 := HA3.out
            rw [if_neg hz] at h2
            rw [← HY.out]
            unfold wrE
            rw [h2, if_neg hz]
          subst hyz
          clear HA3 HY HC
          go_wp2_with fail
          with_reducible refine hrs.mono ?_
          rintro e X ⟨rfl, hX⟩
          have HX : Hid (Below w.heap.size w X) := HB.out.trans (hX.mono HB.out.size)
          clear hX hrs
          go_wp2
          go_ret
          exact ⟨rfl, HX.out⟩
    · have h0 : wrA LL = 0 := by
        rw [HA.out, List.drop_of_length_le (by omega)]
        rfl
      have hcl := HC.out h0 wr HB.out
      have hy2 : (if q then (0 : Int) else 111) = y := by
        rw [← HY.out]
        unfold wrE
        rw [if_pos h0]
      clear HC HY HA h0
      cases q
      · have : y = 111 := hy2.symm
        subst this
        clear hy2
        go_wp2_with fail
        with_reducible refine hcl.mono ?_
        rintro e X ⟨rfl, HX⟩
        clear hcl
        go_wp2
        go_ret
        exact ⟨rfl, HX.out⟩
      · have : y = 0 := hy2.symm
        subst this
        clear hy2
        go_wp2_with fail
        with_reducible refine hcl.mono ?_
        rintro e X ⟨rfl, HX⟩
        clear hcl
        go_wp2
        go_ret
        exact ⟨rfl, HX.out⟩
theorem wrong_any (w : World) {LL : List (List Pl)} {a : Option Addr} {ca : Nat} (h : LlAt w a LL) (hk : LL.length ≤ 256) (hv : ∀ L ∈ LL, ∀ x ∈ L, Lvl x.s) (q : Bool) (hq : q = true ↔ (sps LL.flatten).Pairwise Ok) :
    Calls Try.prog 22 #[.slice a LL.length ca] w fun e w' => e = .returned (.int .i64 (wrE LL q)) ∧ Below w.heap.size w w' := by
  refine wrong_loop w h hk hv q ?_ _ rfl
  intro h0 X hX
  have hok := wrA_ok h0
  have hfl := flat_len LL (fun L hL => (hok L hL).1)
  refine (cross_any X (h.bel hX) (by omega) (by omega) ?_ q hq).mono ?_
  · intro x hx
    obtain ⟨L, hL, hxL⟩ := List.mem_flatten.1 hx
    have := one_val (hok L hL).2 x hxL
    omega
  · rintro e w' ⟨he, hb⟩
    exact ⟨he, hX.trans (hb.mono hX.size)⟩

set_option maxRecDepth 100000 in
set_option maxHeartbeats 4000000 in
theorem rlist_big (w : World) {L : List Pl} {a : Option Addr} {cap : Nat} (hbig : 4096 < L.length) (hm : L.length ≤ 1152921504606846976) :
    Calls Try.prog 27 #[.slice a L.length cap] w fun e w' => e = .returned (.int .i64 2) ∧ w' = w := by
  have hb9 : (4096 : Int) < (L.length : Int) := by omega
  go_enter Try.func27, Try.ntmps27
  go_wp2
  go_ret
  exact ⟨rfl, rfl⟩

end Go.Proofs.Ytmeinebfdljndaa
