/- Trees that were read, as data; Same of two forests that are the same. -/
import Derived.Test.YtmifejkddgcbmaaGreatB06
namespace Go.Proofs.YtmifejkddgcbmaaGreat
open Go.RowKit
set_option linter.unusedVariables false
set_option linter.unusedSimpArgs false
attribute [local go_sem] Bel.cell Bel.fz

theorem TreeS.at {w : World} : ∀ {n : Nat} {R : Nat → Prop} {v : Array Value} {t : T n}, TreeS w n R v t → (∀ b, R b → b < w.heap.size) → TreeAt w 0 w.heap.size n v t
  | 0, _, _, _, h, _ => h.elim
  | n + 1, R, v, t, h, hR => by
    obtain ⟨a, ac, ka, kc, xs, Rf, h1, h2, h3, h4, h5, h6, h7, h8, h9⟩ := h
    obtain ⟨r1, r2, r3⟩ := row_cell h5
    obtain ⟨q1, q2, q3⟩ := attrs_row h4 rfl
    refine ⟨a, ac, ka, kc, h1, by unfold maxA; omega, by unfold maxK; omega, q3, r1, fun i p hp => ?_, fun i k hk => ?_⟩
    · obtain ⟨b, o, e1, e2, e3, e4⟩ := q1 i p hp
      exact ⟨b, o, e1, Nat.zero_le _, e2.2.2, e3, e4⟩
    · obtain ⟨f1, f2, Rk, f3, f4, f5⟩ := h6
      obtain ⟨u, g1, g2, g3⟩ := f3 i k hk
      have hi := (List.getElem?_eq_some_iff.1 hk).1
      obtain ⟨v0, hv0⟩ : ∃ v0, xs[i * 5]? = some v0 := ⟨_, List.getElem?_eq_getElem (by omega)⟩
      obtain ⟨g, rfl, -, hg, -⟩ := r3 _ _ hv0
      refine ⟨g, 0, u, rfl, Nat.zero_le _, hg, g1, fun j hj => ?_, g3.at (fun b hb => hR b (h7 b (f4 i b hi hb)))⟩
      rw [Nat.zero_add, ← g2 j hj]
      obtain ⟨v1, hv1⟩ : ∃ v1, xs[i * 5 + j]? = some v1 := ⟨_, List.getElem?_eq_getElem (by omega)⟩
      obtain ⟨g', e1, -, -, e2⟩ := r3 _ _ hv1
      cases e1
      rw [hv1, e2]
/-- A forest that was read, as data. -/
theorem ForS.at {w : World} {base n : Nat} {a : Option Addr} {cap : Nat} {L : List (T n)} {xs : List Value} {R : Nat → Prop} (ho : w.ownsRow base 40 5 (.slice a L.length cap) L.length xs) (hf : ForS (TreeS w n) R xs L) (hR : ∀ b, R b → b < w.heap.size) : Tc.KidsAt w 0 w.heap.size n a L := fun i k hk => by
  obtain ⟨r1, r2, r3⟩ := row_cell ho
  obtain ⟨f1, f2, Rk, f3, f4, f5⟩ := hf
  obtain ⟨u, g1, g2, g3⟩ := f3 i k hk
  have hi := (List.getElem?_eq_some_iff.1 hk).1
  obtain ⟨v0, hv0⟩ : ∃ v0, xs[i * 5]? = some v0 := ⟨_, List.getElem?_eq_getElem (by omega)⟩
  obtain ⟨g, rfl, -, hg, -⟩ := r3 _ _ hv0
  refine ⟨g, 0, u, rfl, Nat.zero_le _, hg, g1, fun j hj => ?_, g3.at (fun b hb => hR b (f4 i b hi hb))⟩
  rw [Nat.zero_add, ← g2 j hj]
  obtain ⟨v1, hv1⟩ : ∃ v1, xs[i * 5 + j]? = some v1 := ⟨_, List.getElem?_eq_getElem (by omega)⟩
  obtain ⟨g', e1, -, -, e2⟩ := r3 _ _ hv1
  cases e1
  rw [hv1, e2]
theorem Tc.KidsAt.after {w w' : World} {lo n : Nat} {a : Option Addr} {L : List (T n)} (h : Tc.KidsAt w lo w.heap.size n a L) (hb : Below w.heap.size w w') : Tc.KidsAt w' lo w'.heap.size n a L := fun i k hk => by
  obtain ⟨b, o, u, g1, g2, g3, g4, g5, g6⟩ := h i k hk
  have := hb.size
  exact ⟨b, o, u, g1, g2, by omega, g4, fun j hj => (hb.cell (p := ⟨b, _, none⟩) g3).trans (g5 j hj), g6.after hb⟩

set_option maxRecDepth 100000 in
set_option maxHeartbeats 2000000 in
theorem equal_any (w : World) (lo lo2 : Nat) (a a2 : Option Addr) (l : List Att) (c c2 : Nat) (h : AttrsAt w lo w.heap.size a l) (h2 : AttrsAt w lo2 w.heap.size a2 l) (hl : l.length ≤ maxA) :
    Calls Tryz.prog 64 #[.slice a l.length c, .slice a2 l.length c2] w fun e w' => e = .returned (.bool true) ∧ Below w.heap.size w w' := by
  have HA : Hid (AttrsAt w lo w.heap.size a l) := h
  have HA2 : Hid (AttrsAt w lo2 w.heap.size a2 l) := h2
  unfold maxA at hl
  have n1 : ((l.length : Int) != (l.length : Int)) = false := by simp
  clear h h2
  go_enter Tryz.func64, Tryz.ntmps64
  go_wp2
  go_loopw [13] (fun v13 wr => ∃ i : Nat, i ≤ l.length ∧ v13 = .int .i64 (i : Int) ∧ Hid (Below w.heap.size w wr)) (fun v13 _ => l.length - (intOf v13).toNat)
  case atStart => exact ⟨0, by omega, rfl, Below.refl _ _⟩
  case round =>
    obtain ⟨i, hi, rfl, hb⟩ := hrel
    by_cases hlt : i < l.length
    · have t1 : (i : Int) < (l.length : Int) := by omega
      have t0 : (0 : Int) ≤ (i : Int) := by omega
      obtain ⟨p, hp⟩ : ∃ p, l[i]? = some p := ⟨_, List.getElem?_eq_getElem hlt⟩
      obtain ⟨b, o, rfl, -, hbl, c0, c1⟩ := HA.out i p hp
      obtain ⟨b2, o2, rfl, -, hbl2, e0, e1⟩ := HA2.out i p hp
      have d0 := (hb.out.cell (p := ⟨b, o + i * 2, none⟩) hbl).trans c0
      have d1 := (hb.out.cell (p := ⟨b, o + i * 2 + 1, none⟩) hbl).trans c1
      have f0 := (hb.out.cell (p := ⟨b2, o2 + i * 2, none⟩) hbl2).trans e0
      have f1 := (hb.out.cell (p := ⟨b2, o2 + i * 2 + 1, none⟩) hbl2).trans e1
      have n5 : (p.1.toList == p.1.toList) = true := by simp
      have n6 : (p.2.toList == p.2.toList) = true := by simp
      clear hp c0 c1 e0 e1
      go_wp2
      go_region
      go_wp2
      refine ⟨⟨i + 1, by omega, by simp, hb.out.drew⟩, ?_⟩
      simp [intOf]; omega
    · have t1 : ¬ (i : Int) < (l.length : Int) := by omega
      go_wp2
      go_ret
      exact ⟨rfl, hb.out⟩

theorem AttrsAt.after' {w w' : World} {lo : Nat} {a : Option Addr} {l : List Att} (h : AttrsAt w lo w.heap.size a l) (hb : Below w.heap.size w w') : AttrsAt w' lo w'.heap.size a l :=
  (h.of_cells (fun b o _ hb' => hb.cell (p := ⟨b, o, none⟩) hb')).mono (Nat.le_refl _) hb.size

set_option maxRecDepth 100000 in
set_option maxHeartbeats 2000000 in
theorem samenode_any (w : World) (b x b2 x2 lo lo2 : Nat) (kd : Int) (nm tx : ByteArray) (l : List Att) (aa aa2 : Option Addr) (ac ac2 : Nat) (hb : b < w.heap.size) (hb2 : b2 < w.heap.size) (hl : l.length ≤ maxA)
    (h0 : w.cell? ⟨b, x, none⟩ = some (.int .i64 kd)) (h1 : w.cell? ⟨b, x + 1, none⟩ = some (.string nm)) (h2 : w.cell? ⟨b, x + 2, none⟩ = some (.slice aa l.length ac)) (h3 : w.cell? ⟨b, x + 3, none⟩ = some (.string tx)) (hA : AttrsAt w lo w.heap.size aa l)
    (g0 : w.cell? ⟨b2, x2, none⟩ = some (.int .i64 kd)) (g1 : w.cell? ⟨b2, x2 + 1, none⟩ = some (.string nm)) (g2 : w.cell? ⟨b2, x2 + 2, none⟩ = some (.slice aa2 l.length ac2)) (g3 : w.cell? ⟨b2, x2 + 3, none⟩ = some (.string tx)) (hA2 : AttrsAt w lo2 w.heap.size aa2 l) :
    Calls Tryz.prog 42 #[.pointer (some ⟨b, x, none⟩), .pointer (some ⟨b2, x2, none⟩)] w fun e w' => e = .returned (.bool true) ∧ Below w.heap.size w w' := by
  have n1 : (kd != kd) = false := by simp
  have HEQ : Hid (∀ W, Below w.heap.size w W → Calls Tryz.prog 64 #[.slice aa l.length ac, .slice aa2 l.length ac2] W fun e w' => e = .returned (.bool true) ∧ Below W.heap.size W w') := fun W hW => equal_any W lo lo2 aa aa2 l ac ac2 (hA.after' hW) (hA2.after' hW) hl
  clear hA hA2
  go_enter Tryz.func42, Tryz.ntmps42
  go_wp2
  refine wp_region_bel (by kernel_rfl) (by kernel_rfl) ?_
  intro hne
  repeat go_big_quiet_step (fail)
  refine wpQuiet_nil ?_
  rintro _ ⟨u, rfl⟩
  have hu := u.h.size
  have k0 := (u.h.cell (p := ⟨b, x, none⟩) hb).trans h0
  have k1 := (u.h.cell (p := ⟨b, x + 1, none⟩) hb).trans h1
  have k2 := (u.h.cell (p := ⟨b, x + 2, none⟩) hb).trans h2
  have k3 := (u.h.cell (p := ⟨b, x + 3, none⟩) hb).trans h3
  have j1 := (u.h.cell (p := ⟨b2, x2 + 1, none⟩) hb2).trans g1
  have j2 := (u.h.cell (p := ⟨b2, x2 + 2, none⟩) hb2).trans g2
  have j3 := (u.h.cell (p := ⟨b2, x2 + 3, none⟩) hb2).trans g3
  clear h0 h1 h2 h3 g0 g1 g2 g3
  have hbu : b < u.w.heap.size := by omega
  have hbu2 : b2 < u.w.heap.size := by omega
  by_cases e1 : kd = 1
  · subst e1
    have n2 : (nm.toList == nm.toList) = true := by simp
    have heq := fun W (hW : Below u.w.heap.size u.w W) => HEQ.out W (u.h.trans (hW.mono hu))
    go_wp2
    refine wp_region_bel (by kernel_rfl) (by kernel_rfl) ?_
    intro hne2
    repeat go_big_quiet_step ((go_at_call 64; exact Calls.bel_of (heq _ (Bel.h _))))
    refine wpQuiet_nil ?_
    rintro _ ⟨u2, rfl⟩
    go_wp2
    go_ret
    exact ⟨rfl, u.h.trans (u2.h.mono hu)⟩
  · have e1' : (kd == 1) = false := beq_eq_false_iff_ne.2 e1
    by_cases e2 : kd = 2
    · subst e2
      have n2 : (tx.toList == tx.toList) = true := by simp
      clear e1 e1'
      go_wp2
      refine wp_region_bel (by kernel_rfl) (by kernel_rfl) ?_
      intro hne2
      repeat go_big_quiet_step (fail)
      refine wpQuiet_nil ?_
      rintro _ ⟨u2, rfl⟩
      go_wp2
      go_ret
      exact ⟨rfl, u.h.trans (u2.h.mono hu)⟩
    · have e2' : (kd == 2) = false := beq_eq_false_iff_ne.2 e2
      clear e1 e2
      go_wp2
      go_ret
      exact ⟨rfl, u.h⟩

end Go.Proofs.YtmifejkddgcbmaaGreat

/- Same, normal and size of forests. -/
namespace Go.Proofs.YtmifejkddgcbmaaGreat
open Go.RowKit
set_option linter.unusedVariables false
set_option linter.unusedSimpArgs false
attribute [local go_sem] Bel.cell Bel.fz

/-- A child's cells, with what they are. -/
theorem kids_get {w : World} {lo hi n : Nat} {ka : Option Addr} {L : List (T (n + 1))} (h : Tc.KidsAt w lo hi (n + 1) ka L) {i : Nat} {k : T (n + 1)} (hk : L[i]? = some k) :
    ∃ b o a ac ka' kc, ka = some ⟨b, o, none⟩ ∧ b < hi ∧ w.cell? ⟨b, o + i * 5, none⟩ = some (.int .i64 k.kind) ∧ w.cell? ⟨b, o + i * 5 + 1, none⟩ = some (.string k.name) ∧ w.cell? ⟨b, o + i * 5 + 2, none⟩ = some (.slice a k.attrs.length ac) ∧
      w.cell? ⟨b, o + i * 5 + 3, none⟩ = some (.string k.text) ∧ w.cell? ⟨b, o + i * 5 + 4, none⟩ = some (.slice ka' k.kids.length kc) ∧ k.attrs.length ≤ maxA ∧ k.kids.length ≤ maxK ∧ AttrsAt w lo hi a k.attrs ∧ Tc.KidsAt w lo hi n ka' k.kids := by
  obtain ⟨b, o, u, h1, h2, h3, h4, h5, h6⟩ := h i k hk
  obtain ⟨a, ac, ka', kc, rfl, q2, q3, q4, q5, q6, q7⟩ := h6
  exact ⟨b, o, a, ac, ka', kc, h1, h3, h5 0 (by omega), h5 1 (by omega), h5 2 (by omega), h5 3 (by omega), h5 4 (by omega), q2, q3, q6, q7⟩

def SameAll (n : Nat) : Prop := ∀ (w : World) (lo lo2 : Nat) (a a2 : Option Addr) (L : List (T n)) (c c2 : Nat) (dp : Int), Tc.KidsAt w lo w.heap.size n a L → Tc.KidsAt w lo2 w.heap.size n a2 L → L.length ≤ maxK → (n : Int) < dp → dp ≤ 1000000 →
  Calls Tryz.prog 30 #[.slice a L.length c, .slice a2 L.length c2, .int .i64 dp] w fun e w' => e = .returned (.bool true) ∧ Below w.heap.size w w'

set_option maxRecDepth 100000 in
set_option maxHeartbeats 2000000 in
theorem same_zero : SameAll 0 := by
  intro w lo lo2 a a2 L c c2 dp h h2 hl hd hd2
  have hL : L = [] := by
    cases L with
    | nil => rfl
    | cons t r => exact (t : Empty).elim
  subst hL
  have e1 : (dp == 0) = false := beq_eq_false_iff_ne.2 (by omega)
  clear h h2 hl
  show Calls Tryz.prog 30 #[.slice a 0 c, .slice a2 0 c2, .int .i64 dp] w _
  go_enter Tryz.func30, Tryz.ntmps30
  go_wp2
  go_loopw [19] (fun v19 wr => v19 = .int .i64 0 ∧ wr = w) (fun _ _ => 0)
  case atStart => exact ⟨rfl, rfl⟩
  case round =>
    obtain ⟨rfl, hw⟩ := hrel
    obtain rfl := hw.symm
    go_wp2
    go_ret
    exact ⟨rfl, Below.refl _ _⟩

set_option maxRecDepth 100000 in
set_option maxHeartbeats 4000000 in
theorem same_succ (n : Nat) (ih : SameAll n) : SameAll (n + 1) := by
  intro w lo lo2 a a2 L c c2 dp h h2 hl hd hd2
  have HK : Hid (Tc.KidsAt w lo w.heap.size (n + 1) a L) := h
  have HK2 : Hid (Tc.KidsAt w lo2 w.heap.size (n + 1) a2 L) := h2
  unfold maxK at hl
  have e1 : (dp == 0) = false := beq_eq_false_iff_ne.2 (by omega)
  have n1 : ((L.length : Int) != (L.length : Int)) = false := by simp
  clear h h2
  go_enter Tryz.func30, Tryz.ntmps30
  go_wp2
  go_loopw [19] (fun v19 wr => ∃ i : Nat, i ≤ L.length ∧ v19 = .int .i64 (i : Int) ∧ Hid (Below w.heap.size w wr)) (fun v19 _ => L.length - (intOf v19).toNat)
  case atStart => exact ⟨0, by omega, rfl, Below.refl _ _⟩
  case round =>
    obtain ⟨i, hi, rfl, hb⟩ := hrel
    have hs := hb.out.size
    by_cases hlt : i < L.length
    · have t1 : (i : Int) < (L.length : Int) := by omega
      have t0 : (0 : Int) ≤ (i : Int) := by omega
      obtain ⟨k, hk⟩ : ∃ k, L[i]? = some k := ⟨_, List.getElem?_eq_getElem hlt⟩
      have HKr : Hid (Tc.KidsAt wr lo wr.heap.size (n + 1) a L) := HK.out.after hb.out
      have HKr2 : Hid (Tc.KidsAt wr lo2 wr.heap.size (n + 1) a2 L) := HK2.out.after hb.out
      obtain ⟨b, o, aa, ac, ka, kc, rfl, hbl, c0, c1, c2', c3, c4, hal, hkl, hA, hKK⟩ := kids_get HKr.out hk
      obtain ⟨b2, o2, aa2, ac2, ka2, kc2, rfl, hbl2, g0, g1, g2, g3, g4, -, -, hA2, hKK2⟩ := kids_get HKr2.out hk
      have hsn := fun W (hW : Below wr.heap.size wr W) => samenode_any W b (o + i * 5) b2 (o2 + i * 5) lo lo2 k.kind k.name k.text k.attrs aa aa2 ac ac2 (by have := hW.size; omega) (by have := hW.size; omega) hal
        ((hW.cell (p := ⟨b, _, none⟩) hbl).trans c0) ((hW.cell (p := ⟨b, _, none⟩) hbl).trans c1) ((hW.cell (p := ⟨b, _, none⟩) hbl).trans c2') ((hW.cell (p := ⟨b, _, none⟩) hbl).trans c3) (hA.after' hW)
        ((hW.cell (p := ⟨b2, _, none⟩) hbl2).trans g0) ((hW.cell (p := ⟨b2, _, none⟩) hbl2).trans g1) ((hW.cell (p := ⟨b2, _, none⟩) hbl2).trans g2) ((hW.cell (p := ⟨b2, _, none⟩) hbl2).trans g3) (hA2.after' hW)
      have HC : Hid (wr.cell? ⟨b, o + i * 5, none⟩ = some (.int .i64 k.kind) ∧ wr.cell? ⟨b, o + i * 5 + 4, none⟩ = some (.slice ka k.kids.length kc) ∧ wr.cell? ⟨b2, o2 + i * 5 + 4, none⟩ = some (.slice ka2 k.kids.length kc2)) := ⟨c0, c4, g4⟩
      have HIH : Hid (∀ W, Below wr.heap.size wr W → Calls Tryz.prog 30 #[.slice ka k.kids.length kc, .slice ka2 k.kids.length kc2, .int .i64 (dp - 1)] W fun e w' => e = .returned (.bool true) ∧ Below W.heap.size W w') := fun W hW => ih W lo lo2 ka ka2 k.kids kc kc2 (dp - 1) (hKK.after hW) (hKK2.after hW) hkl (by omega) (by omega)
      clear hk c0 c1 c2' c3 c4 g0 g1 g2 g3 g4 hA hA2 hKK hKK2 hkl hal
      go_wp2
      refine wp_region_bel (by kernel_rfl) (by kernel_rfl) ?_
      intro hne
      repeat go_big_quiet_step ((go_at_call 42; exact Calls.bel_of (hsn _ (Bel.h _))))
      refine wpQuiet_nil ?_
      rintro _ ⟨u, rfl⟩
      have hu := u.h.size
      have k0 := (u.h.cell (p := ⟨b, o + i * 5, none⟩) hbl).trans HC.out.1
      have k4 := (u.h.cell (p := ⟨b, o + i * 5 + 4, none⟩) hbl).trans HC.out.2.1
      have j4 := (u.h.cell (p := ⟨b2, o2 + i * 5 + 4, none⟩) hbl2).trans HC.out.2.2
      have hbu : b < u.w.heap.size := by omega
      have hbu2 : b2 < u.w.heap.size := by omega
      have heq := fun W (hW : Below u.w.heap.size u.w W) => HIH.out W (u.h.trans (hW.mono hu))
      have HBU : Hid (Below w.heap.size w u.w) := hb.out.trans (u.h.mono hs)
      have hsu := HBU.out.size
      clear hsn HC HIH HKr HKr2
      by_cases ek : k.kind = 1
      · rw [ek] at k0
        clear ek
        go_wp2
        refine wp_region_bel (by kernel_rfl) (by kernel_rfl) ?_
        intro hne2
        repeat go_big_quiet_step ((go_at_call 30; exact Calls.bel_of (heq _ (Bel.h _))))
        refine wpQuiet_nil ?_
        rintro _ ⟨u2, rfl⟩
        have HB2 : Hid (Below w.heap.size w u2.w) := HBU.out.trans (u2.h.mono hsu)
        go_wp2
        refine ⟨⟨i + 1, by omega, by simp, HB2⟩, ?_⟩
        simp [intOf]; omega
      · have ek' : (k.kind == 1) = false := beq_eq_false_iff_ne.2 ek
        clear ek
        go_wp2
        refine wp_region_bel (by kernel_rfl) (by kernel_rfl) ?_
        intro hne2
        repeat go_big_quiet_step (fail)
        refine wpQuiet_nil ?_
        rintro _ ⟨u2, rfl⟩
        have HB2 : Hid (Below w.heap.size w u2.w) := HBU.out.trans (u2.h.mono hsu)
        go_wp2
        refine ⟨⟨i + 1, by omega, by simp, HB2⟩, ?_⟩
        simp [intOf]; omega
    · have t1 : ¬ (i : Int) < (L.length : Int) := by omega
      go_wp2
      go_ret
      exact ⟨rfl, hb.out⟩

theorem same_all : ∀ n, SameAll n
  | 0 => same_zero
  | n + 1 => same_succ n (same_all n)

set_option maxRecDepth 100000 in
set_option maxHeartbeats 2000000 in
theorem Same_any (w : World) (lo lo2 : Nat) (a a2 : Option Addr) (L : List (T 64)) (c c2 : Nat) (h : Tc.KidsAt w lo w.heap.size 64 a L) (h2 : Tc.KidsAt w lo2 w.heap.size 64 a2 L) (hl : L.length ≤ maxK) :
    Calls Tryz.prog 16 #[.slice a L.length c, .slice a2 L.length c2] w fun e w' => e = .returned (.bool true) ∧ Below w.heap.size w w' := by
  have hs := same_all 64 w lo lo2 a a2 L c c2 131072 h h2 hl (by omega) (by omega)
  clear h h2 hl
  go_enter Tryz.func16, Tryz.ntmps16
  go_wp2_with fail
  refine hs.mono ?_
  rintro e w1 ⟨rfl, hb⟩
  go_wp2
  go_ret
  exact ⟨rfl, hb⟩

end Go.Proofs.YtmifejkddgcbmaaGreat

/- The law's own look at a forest: whether it is normal, how many nodes it has. -/
namespace Go.Proofs.YtmifejkddgcbmaaGreat
open Go.RowKit
set_option linter.unusedVariables false
set_option linter.unusedSimpArgs false

theorem noTwo_get {n : Nat} : ∀ (L : List (T n)) (j : Nat) (a b : T n), noTwo n L → L[j]? = some a → L[j + 1]? = some b → ¬ (kindT n a = 2 ∧ kindT n b = 2)
  | [], j, a, b, _, h, _ => by simp at h
  | [x], j, a, b, _, _, h => by simp at h
  | x :: y :: r, 0, a, b, hn, h1, h2 => by
    simp at h1 h2
    subst h1; subst h2
    exact hn.1
  | x :: y :: r, j + 1, a, b, hn, h1, h2 => noTwo_get (y :: r) j a b hn.2 (by simpa using h1) (by simpa using h2)

def NormAll (n : Nat) : Prop := ∀ (w : World) (lo : Nat) (a : Option Addr) (L : List (T n)) (c : Nat), Tc.KidsAt w lo w.heap.size n a L → L.length ≤ maxK → (∀ t ∈ L, canT n t) → noTwo n L →
  Calls Tryz.prog 17 #[.slice a L.length c] w fun e w' => e = .returned (.bool true) ∧ Below w.heap.size w w'

set_option maxRecDepth 100000 in
set_option maxHeartbeats 2000000 in
theorem norm_zero : NormAll 0 := by
  intro w lo a L c h hl hc hn
  have hL : L = [] := by
    cases L with
    | nil => rfl
    | cons t r => exact (t : Empty).elim
  subst hL
  clear h hl hc hn
  show Calls Tryz.prog 17 #[.slice a 0 c] w _
  go_enter Tryz.func17, Tryz.ntmps17
  go_wp2
  go_loopw [3] (fun v3 wr => v3 = .int .i64 0 ∧ wr = w) (fun _ _ => 0)
  case atStart => exact ⟨rfl, rfl⟩
  case round =>
    obtain ⟨rfl, hw⟩ := hrel
    obtain rfl := hw.symm
    go_wp2
    go_ret
    exact ⟨rfl, Below.refl _ _⟩

set_option maxRecDepth 100000 in
set_option maxHeartbeats 4000000 in
theorem norm_succ (n : Nat) (ih : NormAll n) : NormAll (n + 1) := by
  intro w lo a L c h hl hc hn
  have HK : Hid (Tc.KidsAt w lo w.heap.size (n + 1) a L) := h
  have HC : Hid (∀ t ∈ L, canT (n + 1) t) := hc
  have HN : Hid (noTwo (n + 1) L) := hn
  unfold maxK at hl
  clear h hc hn
  go_enter Tryz.func17, Tryz.ntmps17
  go_wp2
  go_loopw [3] (fun v3 wr => ∃ i : Nat, i ≤ L.length ∧ v3 = .int .i64 (i : Int) ∧ Hid (Below w.heap.size w wr)) (fun v3 _ => L.length - (intOf v3).toNat)
  case atStart => exact ⟨0, by omega, rfl, Below.refl _ _⟩
  case round =>
    obtain ⟨i, hi, rfl, hb⟩ := hrel
    have hs := hb.out.size
    by_cases hlt : i < L.length
    · have t1 : (i : Int) < (L.length : Int) := by omega
      have t0 : (0 : Int) ≤ (i : Int) := by omega
      obtain ⟨k, hk⟩ : ∃ k, L[i]? = some k := ⟨_, List.getElem?_eq_getElem hlt⟩
      have hKr : Tc.KidsAt wr lo wr.heap.size (n + 1) a L := HK.out.after hb.out
      obtain ⟨b, o, aa, ac, ka, kc, rfl, hbl, c0, c1, c2, c3, c4, hal, hkl, hA, hKK⟩ := kids_get hKr hk
      rcases HC.out k (List.mem_of_getElem? hk) with ⟨k1, -, k3⟩ | ⟨k1, -, k3, k4⟩
      · rw [k1] at c0
        have q3 : (k.text.toList == []) = false := by
          rw [beq_eq_false_iff_ne, ByteArray.toList_eq]; exact k3
        cases i with
        | zero =>
          have c0' : wr.cell? ⟨b, o, none⟩ = some (.int .i64 2) := by simpa using c0
          have c3' : wr.cell? ⟨b, o + 3, none⟩ = some (.string k.text) := by simpa using c3
          clear hk hKr c1 c2 c4 hal hkl hA hKK k1 k3
          go_wp2
          refine ⟨⟨1, by omega, by simp, hb⟩, ?_⟩
          simp [intOf]; omega
        | succ j =>
          obtain ⟨pk, hpk⟩ : ∃ pk, L[j]? = some pk := ⟨_, List.getElem?_eq_getElem (by omega)⟩
          obtain ⟨b2, o2, aa2, ac2, ka2, kc2, e1, -, p0, -⟩ := kids_get hKr hpk
          cases e1
          have hpn : (pk.kind == 2) = false := beq_eq_false_iff_ne.2 (fun e => noTwo_get L j pk k HN.out hpk hk ⟨e, k1⟩)
          have t3 : (0 : Int) < (j : Int) + 1 := by omega
          have t4 : (j : Int) + 1 < (L.length : Int) := by omega
          have t5 : (j : Int) < (L.length : Int) := by omega
          have t6 : (0 : Int) ≤ (j : Int) := by omega
          clear hk hKr c1 c2 c4 hal hkl hA hKK k1 k3 hpk
          go_wp2
          refine ⟨⟨j + 1 + 1, by omega, by simp, hb⟩, ?_⟩
          simp [intOf]; omega
      · rw [k1] at c0
        have hcall := ih wr lo ka k.kids kc hKK hkl k3 k4
        clear hk hKr c1 c2 c3 hal hkl hA hKK k1 k3 k4
        go_wp2_with fail
        refine hcall.mono ?_
        rintro e w2 ⟨rfl, hb2⟩
        have HB2 : Hid (Below w.heap.size w w2) := hb.out.trans (hb2.mono hs)
        clear hcall hb2
        go_wp2
        refine ⟨⟨i + 1, by omega, by simp, HB2⟩, ?_⟩
        simp [intOf]; omega
    · have t1 : ¬ (i : Int) < (L.length : Int) := by omega
      go_wp2
      go_ret
      exact ⟨rfl, hb.out⟩
theorem norm_all : ∀ n, NormAll n
  | 0 => norm_zero
  | n + 1 => norm_succ n (norm_all n)

/-- All nodes but the trees themselves. -/
def inner (n : Nat) (L : List (T n)) : Nat := (L.map fun t => cnt n t - 1).sum
theorem cnt_pos {n : Nat} (t : T (n + 1)) : 1 ≤ cnt (n + 1) t := by rw [cnt]; omega
theorem inner_sum {n : Nat} : ∀ L : List (T (n + 1)), L.length + inner (n + 1) L = (L.map (cnt (n + 1))).sum
  | [] => rfl
  | t :: r => by
    have := inner_sum r
    have h := cnt_pos t
    unfold inner at this ⊢
    simp only [List.map_cons, List.sum_cons, List.length_cons]
    omega
theorem inner_take {n : Nat} {L : List (T n)} {i : Nat} {k : T n} (h : L[i]? = some k) : inner n (L.take (i + 1)) = inner n (L.take i) + (cnt n k - 1) := by
  unfold inner
  rw [List.take_add_one, h]
  simp
theorem inner_le {n : Nat} (L : List (T n)) (i : Nat) : inner n (L.take i) ≤ inner n L := by
  have : inner n L = inner n (L.take i) + inner n (L.drop i) := by
    unfold inner
    rw [← List.sum_append, ← List.map_append, List.take_append_drop]
  omega

def SizeAll (n : Nat) : Prop := ∀ (w : World) (lo : Nat) (a : Option Addr) (L : List (T n)) (c : Nat), Tc.KidsAt w lo w.heap.size n a L → (L.map (cnt n)).sum ≤ 4096 →
  Calls Tryz.prog 18 #[.slice a L.length c] w fun e w' => e = .returned (.int .i64 ((L.map (cnt n)).sum : Nat)) ∧ Below w.heap.size w w'

set_option maxRecDepth 100000 in
set_option maxHeartbeats 2000000 in
theorem size_zero : SizeAll 0 := by
  intro w lo a L c h hc
  have hL : L = [] := by
    cases L with
    | nil => rfl
    | cons t r => exact (t : Empty).elim
  subst hL
  clear h hc
  show Calls Tryz.prog 18 #[.slice a 0 c] w fun e w' => e = .returned (.int .i64 0) ∧ _
  go_enter Tryz.func18, Tryz.ntmps18
  go_wp2
  go_loopw [3, 4] (fun v3 v4 wr => v3 = .int .i64 0 ∧ v4 = .int .i64 0 ∧ wr = w) (fun _ _ _ => 0)
  case atStart => exact ⟨rfl, rfl, rfl⟩
  case round =>
    obtain ⟨rfl, rfl, hw⟩ := hrel
    obtain rfl := hw.symm
    go_wp2
    go_ret
    exact ⟨rfl, Below.refl _ _⟩

set_option maxRecDepth 100000 in
set_option maxHeartbeats 4000000 in
theorem size_succ (n : Nat) (ih : SizeAll n) : SizeAll (n + 1) := by
  intro w lo a L c h hc
  have hsum := inner_sum L
  have HK : Hid (Tc.KidsAt w lo w.heap.size (n + 1) a L) := h
  have HSUM : Hid (L.length + inner (n + 1) L = (L.map (cnt (n + 1))).sum) := hsum
  have hll : L.length ≤ 4096 := by omega
  have hin : inner (n + 1) L ≤ 4096 := by omega
  clear h hsum hc
  go_enter Tryz.func18, Tryz.ntmps18
  go_wp2
  go_loopw [3, 4] (fun v3 v4 wr => ∃ i sm : Nat, i ≤ L.length ∧ v4 = .int .i64 (i : Int) ∧ v3 = .int .i64 (sm : Int) ∧ sm ≤ 8192 ∧ Hid (sm = L.length + inner (n + 1) (L.take i)) ∧ Hid (Below w.heap.size w wr)) (fun _ v4 _ => L.length - (intOf v4).toNat)
  case atStart => exact ⟨0, L.length, by omega, rfl, rfl, by omega, by show _ = _; simp [inner], Below.refl _ _⟩
  case round =>
    obtain ⟨i, sm, hi, rfl, rfl, hsm, hg, hb⟩ := hrel
    have hs := hb.out.size
    by_cases hlt : i < L.length
    · have t1 : (i : Int) < (L.length : Int) := by omega
      have t0 : (0 : Int) ≤ (i : Int) := by omega
      obtain ⟨k, hk⟩ : ∃ k, L[i]? = some k := ⟨_, List.getElem?_eq_getElem hlt⟩
      have hKr : Tc.KidsAt wr lo wr.heap.size (n + 1) a L := HK.out.after hb.out
      obtain ⟨b, o, aa, ac, ka, kc, rfl, hbl, c0, c1, c2, c3, c4, hal, hkl, hA, hKK⟩ := kids_get hKr hk
      have hit := inner_take (n := n + 1) hk
      have hile := inner_le (n := n + 1) L (i + 1)
      by_cases ek : k.kind = 1
      · have hkT : kidsT k = k.kids := if_pos ek
        have hck : cnt (n + 1) k - 1 = (k.kids.map (cnt n)).sum := by rw [cnt, hkT]; omega
        rw [ek] at c0
        have hcall := ih wr lo ka k.kids kc hKK (by omega)
        have hb1 : (k.kids.map (cnt n)).sum ≤ 4096 := by omega
        have HG : Hid (sm + (k.kids.map (cnt n)).sum = L.length + inner (n + 1) (L.take (i + 1))) := by show _ = _; rw [hg.out, hit, hck]; omega
        have hb2 : sm + (k.kids.map (cnt n)).sum ≤ 8192 := by have := HG.out; omega
        clear hk hKr c1 c2 c3 hal hkl hA hKK ek hkT hck hit hile hg
        generalize (k.kids.map (cnt n)).sum = z at *
        go_wp2_with fail
        refine hcall.mono ?_
        rintro e w2 ⟨rfl, hbb⟩
        have HB2 : Hid (Below w.heap.size w w2) := hb.out.trans (hbb.mono hs)
        clear hcall hbb
        go_wp2
        refine ⟨⟨i + 1, sm + z, by omega, by simp, by simp, by omega, HG, HB2⟩, ?_⟩
        simp [intOf]; omega
      · have ek' : (k.kind == 1) = false := beq_eq_false_iff_ne.2 ek
        have hkT : kidsT k = [] := if_neg ek
        have hck : cnt (n + 1) k - 1 = 0 := by rw [cnt, hkT]; rfl
        have HG : Hid (sm = L.length + inner (n + 1) (L.take (i + 1))) := by show _ = _; rw [hg.out, hit, hck]; omega
        clear hk hKr c1 c2 c3 c4 hal hkl hA hKK ek hkT hck hit hile hg
        go_wp2
        refine ⟨⟨i + 1, sm, by omega, by simp, rfl, by omega, HG, hb⟩, ?_⟩
        simp [intOf]; omega
    · have t1 : ¬ (i : Int) < (L.length : Int) := by omega
      have HE : Hid ((L.map (cnt (n + 1))).sum = sm) := by
        show _ = _
        rw [← HSUM.out, hg.out, List.take_of_length_le (by omega)]
      clear hg
      go_wp2
      go_ret
      exact ⟨by rw [HE.out]; rfl, hb.out⟩
theorem size_all : ∀ n, SizeAll n
  | 0 => size_zero
  | n + 1 => size_succ n (size_all n)

end Go.Proofs.YtmifejkddgcbmaaGreat

/- The document's examples of markup, in plain. -/
namespace Go.Proofs.YtmifejkddgcbmaaGreat
open Go.RowKit
set_option linter.unusedVariables false
set_option linter.unusedSimpArgs false

def live1 : Bs := [60, 97, 32, 98, 61, 39, 49, 39, 62, 120, 60, 33, 45, 45, 32, 121, 32, 45, 45, 62, 122, 60, 99, 47, 62, 60, 47, 97, 62]
def liveF : List (T 64) := [elT [97] [(ba [98], ba [49])] [txtT [120, 122], elT [99] [] []]]
def live2 : Bs := [60, 97, 32, 98, 61, 34, 49, 34, 62, 120, 122, 60, 99, 47, 62, 60, 47, 97, 62]
theorem live_parse : parseP live1 = .inl liveF := by kernel_rfl
theorem live_print : printP 64 liveF = (live2, 0) := by kernel_rfl
theorem live_bad : parseP [60, 97, 62, 60, 47, 98, 62] = .inr (3, 40) := by kernel_rfl

end Go.Proofs.YtmifejkddgcbmaaGreat
