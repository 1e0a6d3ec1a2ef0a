/- TagsGap's walk: so many tags at one place, or by turns, or behind the newest one: none is refused. -/
import Derived.Test.YtkppcnednfjbhaaRises
import Derived.Test.YtkppcnednfjbhaaFull
import Derived.OpenShut
namespace Go.Proofs.Ytkppcnednfjbhaa
open Go.RowKit Go.Maps

theorem both_new (w : World) : Both w.heap.size ((w.alloc (.cells #[.map none, .int .u64 0, .int .u64 0, .pointer none, .pointer none, .int .u64 0, .int .u64 0] 31)).alloc (.cells #[.slice none 0 0, .int .u64 0] 35)) w.heap.size (w.heap.size + 1) newSt none [] 0 := by
  have h1 := has_new w
  refine ⟨h1.of_turn (A := fun _ => False) ((Turn.refl _ _).alloc _) (fun _ _ hf => hf), ⟨?_, rfl, fun rb cap e => by cases e⟩, ?_, ?_, ?_⟩
  · have := isCells_new (w.alloc (.cells #[.map none, .int .u64 0, .int .u64 0, .pointer none, .pointer none, .int .u64 0, .int .u64 0] 31)) #[.slice none 0 0, .int .u64 0] 35
    rw [show (w.alloc (.cells #[.map none, .int .u64 0, .int .u64 0, .pointer none, .pointer none, .int .u64 0, .int .u64 0] 31)).heap.size = w.heap.size + 1 from by simp] at this
    exact this
  · intro k hk hk'
    have e1 := own_new hk
    rcases hk' with e | ⟨cap, e⟩
    · omega
    · cases e
  · intro k hk
    have := own_new hk
    omega
  · rintro k (e | ⟨cap, e⟩)
    · omega
    · cases e

def IsRow (k : IntKind) (w : World) (a : Option Addr) (len cap : Nat) (zs : List Int) : Prop :=
  (a = none ∧ len = 0 ∧ cap = 0 ∧ zs = []) ∨
  ∃ x, a = some x ∧ len ≤ cap ∧ cap ≤ maxLen ∧ zs.length = cap ∧ (∀ i, i < zs.length → w.cell? (x.add i) = some (.int k (zs.getD i 0))) ∧ ∀ n ∈ zs, (Lit.int k n).wf = true

theorem row_at {w : World} {a : Option Addr} {len cap : Nat} {zs : List Int} (h : IsRow .u8 w a len cap zs) {i : Nat} (hi : i < len) : ∃ b off z, a = some ⟨b, off, none⟩ ∧ b < w.heap.size ∧ w.cell? ⟨b, off + i, none⟩ = some (.int .u8 ((z : Nat) : Int)) ∧ z < 256 := by
  rcases h with ⟨_, rfl, _⟩ | ⟨x, rfl, h1, h2, h3, h4, h5⟩
  · omega
  · obtain ⟨b, off, rfl, hcs⟩ := ints_at h4 (by omega)
    have hc := hcs i (by omega)
    have hw := h5 (zs.getD i 0) (by rw [List.getD_eq_getElem?_getD, List.getElem?_eq_getElem (by omega)]; exact List.getElem_mem _)
    have e1 : IntKind.u8.min = 0 := rfl
    have e2 : IntKind.u8.max = 255 := rfl
    simp only [Lit.wf, e1, e2, Bool.and_eq_true, decide_eq_true_eq] at hw
    generalize zs.getD i 0 = z at *
    obtain ⟨m, rfl⟩ := Int.eq_ofNat_of_zero_le hw.1
    exact ⟨b, off, m, rfl, World.block_lt_of_cell? w _ hc, hc, by omega⟩

set_option maxRecDepth 100000 in
set_option maxHeartbeats 2000000 in
theorem gap_walk (n0 : Nat) (a1 : Option Addr) (len1 cap1 : Nat) (z1 : List Int) (t2 : Nat) (w : World) (h0 : n0 < 65536) (h1 : IsRow .u8 w a1 len1 cap1 z1) (h2 : t2 < 256) :
    Calls Try.prog 4 #[.int .u16 (n0 : Int), .slice a1 len1 cap1, .int .u8 (t2 : Int)] w fun e w' => e = .returned (.bool true) ∧ Below w.heap.size w w' := by
  have hlm : (len1 : Int) ≤ 9223372036854775807 := by
    rcases h1 with ⟨_, rfl, _⟩ | ⟨_, _, h3, h4, _⟩
    · decide
    · unfold maxLen at h4; omega
  have H1 : Hid (IsRow .u8 w a1 len1 cap1 z1) := h1
  clear h1
  go_enter Try.func4, Try.ntmps4
  go_wp2
  go_loopw [9] (fun i wr => ∃ (k : Nat) (S : St) (sl : Option (Nat × Nat)) (T : List Nat), k ≤ len1 ∧ i = .int .i64 (k : Int) ∧ Hid (Both w.heap.size wr w.heap.size (w.heap.size + 1) S sl T T.length) ∧ Hid (Below w.heap.size w wr)) (fun i _ => len1 - (intOf i).toNat)
  case atStart => exact ⟨0, newSt, none, [], Nat.zero_le _, rfl, both_new w, ((Below.refl _ _).alloc (Nat.le_refl _) _).alloc (by simp) _⟩
  case round =>
    obtain ⟨k, S, sl, T, hk, rfl, hH, hB⟩ := hrel
    have hTl := hH.out.p.tlen
    by_cases hlt : k < len1
    · obtain ⟨b, off, z, ha, hbs, hcell, hz⟩ := row_at H1.out hlt
      subst ha
      have hcw : wr.cell? ⟨b, off + k, none⟩ = some (.int .u8 ((z : Nat) : Int)) := by rw [hB.out.cell (p := ⟨b, off + k, none⟩) hbs]; exact hcell
      have hdoes := does_any w.heap.size wr w.heap.size (w.heap.size + 1) S sl T T.length 0 1 z 0 hH.out hB.out.size (by omega) (by omega) (by omega)
      clear hcell
      go_wp2_with fail
      refine hdoes.mono ?_
      rintro e w1 ⟨rfl, hD⟩
      have HD : Hid (Did w.heap.size wr w.heap.size (w.heap.size + 1) S T T.length 0 w1) := hD
      clear hD hdoes
      go_wp2
      go_roundw
      case rel =>
        obtain ⟨hb, S', sl', T', g', hB', _, _, hl, _⟩ := HD.out
        have e1 := hl rfl rfl
        subst e1
        exact ⟨k + 1, S', sl', T', by omega, by go_num, hB', hB.out.trans hb⟩
      case measure => simp [intOf]; omega
    · have hgv : wr.cell? ⟨w.heap.size + 1, 1, none⟩ = some (.int .u64 ((T.length : Nat) : Int)) := by rw [hH.out.d.head.cell]; rfl
      obtain ⟨pl, hpl⟩ : ∃ pl, pl = T.length / 2 := ⟨_, rfl⟩
      have hq : IntKind.u64.wrap (((T.length : Nat) : Int) / 2) = (pl : Int) := by rw [IntKind.wrap_u64]; omega
      have hq2 : (((T.length : Nat) : Int) / 2) = (pl : Int) := by omega
      have hplb : pl ≤ 8192 := by omega
      have Hpl : Hid (pl = T.length / 2) := hpl
      clear hpl
      obtain ⟨wo, rfl⟩ : ∃ wo : World, wo = wr := ⟨_, rfl⟩
      go_wp2
      go_loopw [11] (fun i wr => ∃ (j : Nat) (S1 : St) (sl1 : Option (Nat × Nat)) (T1 : List Nat), j ≤ n0 % 2000 ∧ i = .int .i64 (j : Int) ∧ Hid (Both w.heap.size wr w.heap.size (w.heap.size + 1) S1 sl1 T1 T1.length) ∧ Hid (Below w.heap.size w wr)) (fun i _ => n0 % 2000 - (intOf i).toNat)
      case atStart => exact ⟨0, S, sl, T, Nat.zero_le _, rfl, hH, hB⟩
      case round =>
        obtain ⟨j, S1, sl1, T1, hj, rfl, hH1, hB1⟩ := hrel
        have hTl1 := hH1.out.p.tlen
        have hnm : ((n0 : Int) % 2000) = ((n0 % 2000 : Nat) : Int) := by simp
        have hnb : n0 % 2000 < 2000 := Nat.mod_lt _ (by decide)
        generalize n0 % 2000 = nn at *
        by_cases hlt2 : j < nn
        · have hgv1 : wr.cell? ⟨w.heap.size + 1, 1, none⟩ = some (.int .u64 ((T1.length : Nat) : Int)) := by rw [hH1.out.d.head.cell]; rfl
          have hcase : t2 % 3 = 1 ∧ j % 2 = 1 ∨ t2 % 3 = 1 ∧ j % 2 = 0 ∨ t2 % 3 = 2 ∨ t2 % 3 = 0 := by omega
          rcases hcase with ⟨c1, c2⟩ | ⟨c1, c2⟩ | c1 | c1
          · have b1 : ((t2 : Int) % 3 == 1) = true := beq_iff_eq.2 (by omega)
            have b2 : ((j : Int) % 2 == 1) = true := beq_iff_eq.2 (by omega)
            have b3 : ((t2 : Int) % 3 == 2) = false := beq_eq_false_iff_ne.2 (by omega)
            clear c1 c2
            have hdoes := does_any w.heap.size wr w.heap.size (w.heap.size + 1) S1 sl1 T1 T1.length 0 0 0 0 hH1.out hB1.out.size (by omega) (by omega) (by omega)
            go_wp2_with fail
            refine hdoes.mono ?_
            rintro e w1 ⟨rfl, hD⟩
            have HD : Hid (Did w.heap.size wr w.heap.size (w.heap.size + 1) S1 T1 T1.length 0 w1) := hD
            clear hD hdoes
            go_wp2
            go_roundw
            case rel =>
              obtain ⟨hb, S', sl', T', g', hB', _, _, hl, _⟩ := HD.out
              have e1 := hl rfl rfl
              subst e1
              exact ⟨j + 1, S', sl', T', by omega, by go_num, hB', hB1.out.trans hb⟩
            case measure => simp [intOf]; omega
          · have b1 : ((t2 : Int) % 3 == 1) = true := beq_iff_eq.2 (by omega)
            have b2 : ((j : Int) % 2 == 1) = false := beq_eq_false_iff_ne.2 (by omega)
            have b3 : ((t2 : Int) % 3 == 2) = false := beq_eq_false_iff_ne.2 (by omega)
            clear c1 c2
            have hdoes := does_any w.heap.size wr w.heap.size (w.heap.size + 1) S1 sl1 T1 T1.length 0 0 pl 0 hH1.out hB1.out.size (by omega) (by omega) (by omega)
            go_wp2_with fail
            refine hdoes.mono ?_
            rintro e w1 ⟨rfl, hD⟩
            have HD : Hid (Did w.heap.size wr w.heap.size (w.heap.size + 1) S1 T1 T1.length 0 w1) := hD
            clear hD hdoes
            go_wp2
            go_roundw
            case rel =>
              obtain ⟨hb, S', sl', T', g', hB', _, _, hl, _⟩ := HD.out
              have e1 := hl rfl rfl
              subst e1
              exact ⟨j + 1, S', sl', T', by omega, by go_num, hB', hB1.out.trans hb⟩
            case measure => simp [intOf]; omega
          · have b1 : ((t2 : Int) % 3 == 1) = false := beq_eq_false_iff_ne.2 (by omega)
            have b3 : ((t2 : Int) % 3 == 2) = true := beq_iff_eq.2 (by omega)
            clear c1
            have hdoes := does_any w.heap.size wr w.heap.size (w.heap.size + 1) S1 sl1 T1 T1.length 0 0 T1.length 0 hH1.out hB1.out.size (by omega) (by omega) (by omega)
            go_wp2_with fail
            refine hdoes.mono ?_
            rintro e w1 ⟨rfl, hD⟩
            have HD : Hid (Did w.heap.size wr w.heap.size (w.heap.size + 1) S1 T1 T1.length 0 w1) := hD
            clear hD hdoes
            go_wp2
            go_roundw
            case rel =>
              obtain ⟨hb, S', sl', T', g', hB', _, _, hl, _⟩ := HD.out
              have e1 := hl rfl rfl
              subst e1
              exact ⟨j + 1, S', sl', T', by omega, by go_num, hB', hB1.out.trans hb⟩
            case measure => simp [intOf]; omega
          · have b1 : ((t2 : Int) % 3 == 1) = false := beq_eq_false_iff_ne.2 (by omega)
            have b3 : ((t2 : Int) % 3 == 2) = false := beq_eq_false_iff_ne.2 (by omega)
            clear c1
            have hdoes := does_any w.heap.size wr w.heap.size (w.heap.size + 1) S1 sl1 T1 T1.length 0 0 pl 0 hH1.out hB1.out.size (by omega) (by omega) (by omega)
            go_wp2_with fail
            refine hdoes.mono ?_
            rintro e w1 ⟨rfl, hD⟩
            have HD : Hid (Did w.heap.size wr w.heap.size (w.heap.size + 1) S1 T1 T1.length 0 w1) := hD
            clear hD hdoes
            go_wp2
            go_roundw
            case rel =>
              obtain ⟨hb, S', sl', T', g', hB', _, _, hl, _⟩ := HD.out
              have e1 := hl rfl rfl
              subst e1
              exact ⟨j + 1, S', sl', T', by omega, by go_num, hB', hB1.out.trans hb⟩
            case measure => simp [intOf]; omega
        · have hdoes := does_any w.heap.size wr w.heap.size (w.heap.size + 1) S1 sl1 T1 T1.length 0 0 0 0 hH1.out hB1.out.size (by omega) (by omega) (by omega)
          go_wp2_with fail
          refine hdoes.mono ?_
          rintro e w1 ⟨rfl, hD⟩
          obtain ⟨hb, S', sl', T', g', hB', hg1, hg2, _⟩ := hD
          have hrises := rises_any w.heap.size w1 w.heap.size (w.heap.size + 1) S' sl' T' g' hB' (by omega)
          have HB2 : Hid (Below w.heap.size w w1) := hB1.out.trans hb
          clear hdoes hb hB' hg1 hg2
          go_wp2_with fail
          refine hrises.mono ?_
          rintro e w3 ⟨rfl, m, rfl⟩
          go_wp2
          go_ret
          exact ⟨rfl, ⟨HB2.out.os, HB2.out.tape, HB2.out.output, HB2.out.size, HB2.out.block⟩⟩

end Go.Proofs.Ytkppcnednfjbhaa
