/- AxisOne, walked. -/
import Derived.Test.YtfhbfilmejegcaaOno
namespace Go.Proofs.Ytfhbfilmejegcaa
open Go.RowKit
set_option linter.unusedVariables false

/-- Two spans in boxes of their own. -/
def Two (z wx : World) (X Y : Nat) (a b : Sp) : Prop := Below z.heap.size z wx ∧ IsCells wx X #[.int .u64 a.b, .int .u64 a.e, .int .i64 a.l] ∧ IsCells wx Y #[.int .u64 b.b, .int .u64 b.e, .int .i64 b.l]

theorem two_ab (z : World) (a b : Sp) : Two z ((z.alloc (.cells #[.int .u64 a.b, .int .u64 a.e, .int .i64 a.l] 24)).alloc (.cells #[.int .u64 b.b, .int .u64 b.e, .int .i64 b.l] 24)).drew z.heap.size (z.heap.size + 1) a b := by
  refine ⟨(below2 z _ _).drew, ((isCells_new z _ _).alloc _).of_block rfl, ?_⟩
  have c := isCells_new (z.alloc (.cells #[.int .u64 a.b, .int .u64 a.e, .int .i64 a.l] 24)) #[.int .u64 b.b, .int .u64 b.e, .int .i64 b.l] 24
  rw [show (z.alloc (.cells #[.int .u64 a.b, .int .u64 a.e, .int .i64 a.l] 24)).heap.size = z.heap.size + 1 from by simp] at c
  exact c.of_block rfl
theorem two_ba (z : World) (a b : Sp) : Two z ((z.alloc (.cells #[.int .u64 b.b, .int .u64 b.e, .int .i64 b.l] 24)).alloc (.cells #[.int .u64 a.b, .int .u64 a.e, .int .i64 a.l] 24)).drew (z.heap.size + 1) z.heap.size a b :=
  ⟨(two_ab z b a).1, (two_ab z b a).2.2, (two_ab z b a).2.1⟩
theorem cnt_snoc {Z : List Bool} {j : Nat} {t : Bool} (h : Z[j]? = some t) : cnt (Z.take (j + 1)) = cnt (Z.take j) + if t = true then 1 else 0 := by
  rw [take_snoc h]
  unfold cnt
  rw [List.filter_append]
  cases t <;> simp
theorem cnt_le (Z : List Bool) (j : Nat) : 0 ≤ cnt (Z.take j) ∧ cnt (Z.take j) ≤ j := by
  unfold cnt
  have := List.length_filter_le id (Z.take j)
  have h2 := List.length_take_le j Z
  constructor <;> omega
/-- Bools in a row of their own. -/
def Bools (w : World) (G : Nat) (Z : List Bool) : Prop := G < w.heap.size ∧ ∀ (j : Nat) (t : Bool), Z[j]? = some t → w.cell? ⟨G, j, none⟩ = some (.bool t)
theorem bools_new (w : World) (Z : List Bool) : Bools (w.alloc (.cells (Z.map Value.bool).toArray 4)) w.heap.size Z := ⟨by simp, cells_bool w Z 4⟩
theorem Bools.to {w w' : World} {G : Nat} {Z : List Bool} (h : Bools w G Z) {B : Nat} (hb : Below B w w') (hB : w.heap.size ≤ B) : Bools w' G Z :=
  ⟨Nat.lt_of_lt_of_le h.1 hb.size, fun j t ht => (hb.cell (p := ⟨G, j, none⟩) (show G < B by have := h.1; omega)).trans (h.2 j t ht)⟩
/-- One world's successors are the first one's. -/
theorem Bel.comp {w : World} (u : Bel w) {W : World} (h : Below u.w.heap.size u.w W) (v : Bel W) : Below w.heap.size w v.w := (u.h.trans (h.mono u.h.size)).trans (v.h.mono (Nat.le_trans u.h.size h.size))

set_option maxRecDepth 100000 in
set_option maxHeartbeats 8000000 in
theorem one_walk (w : World) (la : Option Addr) (L : List Sp) (cap : Nat) (h : SpsAt w w.heap.size la L) (hl : L.length ≤ 5864062014805) :
    Calls Try.prog 5 #[.slice la L.length cap] w fun e w' => e = .returned (.bool true) ∧ Below w.heap.size w w' := by
  have HA : Hid (SpsAt w w.heap.size la L) := h
  have HK : Hid (∀ (W : World) (a : Option Addr) (cap : Nat), SpsAt W W.heap.size a L → Calls Try.prog 23 #[.slice a L.length cap] W fun e w' => e = .returned (.tuple #[.int .i64 (chkP L).1, .int .i64 (chkP L).2]) ∧ Below W.heap.size W w') := fun W a cap h => check_any W a L cap h
  have HRK : Hid (∀ (W : World) (a : Option Addr) (cap : Nat), SpsAt W W.heap.size a L → Calls Try.prog 24 #[.slice a L.length cap] W fun e w' => e = .returned (.tuple #[.int .i64 (chkP L).1, .int .i64 (chkP L).2]) ∧ Below W.heap.size W w') := fun W a cap h => rcheck_any W a L cap h
  have HGOOD : Hid ((chkP L).2 = 0 → ∀ (i k : Nat) (a b : Sp), L[i]? = some a → L[k]? = some b → cnt (five a b) = 1 ∧ val b = true) := fun h0 i k a b ha hb => ⟨five_any h0 ha hb, (chkP_good h0).1 b (List.mem_of_getElem? hb)⟩
  have hself := fun W => self_any W ⟨1, 2, 0⟩ ⟨1, 2, 0⟩
  have hancl := fun W => anc_any W ⟨1, 4, 0⟩ ⟨2, 3, 0⟩
  rw [show slf ⟨1, 2, 0⟩ ⟨1, 2, 0⟩ = true from rfl] at hself
  rw [show anc ⟨1, 4, 0⟩ ⟨2, 3, 0⟩ = true from rfl] at hancl
  unfold sv at hself hancl
  simp only at hself hancl
  generalize (chkP L).1 = y1 at *
  generalize (chkP L).2 = y2 at *
  have HB0 : Hid (Below w.heap.size w (w.alloc (.cells #[] 24))) := below1 _ _
  have HO0 : Hid ((w.alloc (.cells #[] 24)).ownsRow w.heap.size 24 3 (.slice (some ⟨w.heap.size, 0, none⟩) 0 0) 0 []) := own_new w 24 3
  have hlL : Hid ((spCells L).length = L.length * 3) := spCells_length _
  have hn2 : (y2 != y2) = false := by simp
  clear h
  have tok : True := trivial
  go_enter Try.func5, Try.ntmps5
  go_wp2_with (at_builtin; have _t := tok; refine wpList_app (by rfl) _ _ (by rfl) Try.underlying31 info24 rfl (by decide) w.heap.size (.slice (some ⟨w.heap.size, 0, none⟩) 0 0) 0 [] (by rfl) HO0.out la L.length cap (spCells L) (by rfl) hlL.out (HA.out.below HB0.out (Nat.le_refl _)).news (spCells_one _) (by unfold maxLen; omega) (by omega) HB0.out.size ?_; intro v1 w1 hown1 hg1 _ hat1; obtain ⟨va1, vc1, hv1⟩ := own_slice hown1; subst hv1; rw [Nat.zero_add, List.nil_append] at hown1; rw [Nat.zero_add]; have HB1 : Hid (Below w.heap.size w w1) := HB0.out.grown hg1 HB0.out.size (fun k hk => (own_block_lt HO0.out k hk).1); have HK1 := HK.out w1 va1 vc1 (row_sps hown1); clear tok _t hown1 hg1 hat1)
  with_reducible refine HK1.mono ?_
  rintro e w2 ⟨rfl, hb2⟩
  have HB2 : Hid (Below w.heap.size w w2) := HB1.out.trans (hb2.mono HB1.out.size)
  have HRK2 := HRK.out w2 la cap ((HA.out.below HB2.out (Nat.le_refl _)).up HB2.out.size)
  clear hb2 HK HRK HB0 HO0 HB1 HK1
  go_wp2_with fail
  with_reducible refine HRK2.mono ?_
  rintro e z ⟨rfl, hb3⟩
  have HB3 : Hid (Below w.heap.size w z) := HB2.out.trans (hb3.mono HB2.out.size)
  clear hb3 HRK2 HB2
  by_cases hy : y2 = 0
  · have hyb : (y2 != 0) = false := by rw [hy]; rfl
    have HG : Hid (∀ (i k : Nat) (a b : Sp), L[i]? = some a → L[k]? = some b → cnt (five a b) = 1 ∧ val b = true) := HGOOD.out hy
    clear hy HGOOD
    obtain ⟨u, hu⟩ : ∃ u : Bel w, z = u.w := ⟨⟨z, HB3.out⟩, rfl⟩
    subst hu
    clear HB3
    go_wp2
    go_loopw [7] (fun v wr => ∃ (i : Nat) (u : Bel w), i ≤ L.length ∧ i ≤ 40 ∧ v = .int .i64 (i : Int) ∧ wr = u.w) (fun v _ => 40 - (intOf v).toNat)
    case atStart => exact ⟨0, u, by omega, by omega, rfl, rfl⟩
    case round =>
      obtain ⟨i, u, hi, hi4, rfl, rfl⟩ := hrel
      by_cases hlt : i < L.length ∧ i < 40
      · obtain ⟨hlt1, hlt2⟩ := hlt
        have hi40 : decide ((i : Int) < 40) = true := by rw [decide_eq_true_eq]; omega
        obtain ⟨a, ha⟩ : ∃ a, L[i]? = some a := ⟨_, List.getElem?_eq_getElem hlt1⟩
        go_wp2
        go_loopw [8] (fun v wr => ∃ (k : Nat) (u : Bel w), k ≤ L.length ∧ k ≤ 40 ∧ v = .int .i64 (k : Int) ∧ wr = u.w) (fun v _ => 40 - (intOf v).toNat)
        case atStart => exact ⟨0, u, by omega, by omega, rfl, rfl⟩
        case round =>
          obtain ⟨k, u, hk, hk4, rfl, rfl⟩ := hrel
          by_cases hltk : k < L.length ∧ k < 40
          · obtain ⟨hk1, hk2⟩ := hltk
            have hk40 : decide ((k : Int) < 40) = true := by rw [decide_eq_true_eq]; omega
            obtain ⟨b, hb⟩ : ∃ b, L[k]? = some b := ⟨_, List.getElem?_eq_getElem hk1⟩
            obtain ⟨hcnt, hvb⟩ := HG.out i k a b ha hb
            obtain ⟨lb, lo, e1, hlb, a0, a1, a2⟩ := (HA.out.below u.h (Nat.le_refl _)) i a ha
            obtain ⟨lb', lo', e2, -, b0, b1, b2⟩ := (HA.out.below u.h (Nat.le_refl _)) k b hb
            rw [e1] at e2
            simp only [Option.some.injEq, Addr.mk.injEq, and_true] at e2
            obtain ⟨rfl, rfl⟩ := e2
            have HE1 : Hid (la = some ⟨lb, lo, none⟩) := e1
            have hlz : lb < u.w.heap.size := Nat.lt_of_lt_of_le hlb u.h.size
            have nz1 : ¬ u.w.heap.size = lb := by omega
            have nz2 : ¬ lb = u.w.heap.size := by omega
            have nz3 : ¬ u.w.heap.size + 1 = lb := by omega
            have nz4 : ¬ lb = u.w.heap.size + 1 := by omega
            have HCNT : Hid (cnt (five a b) = 1) := hcnt
            subst e1
            clear hcnt ha hb
            have hi1 : (i : Int) < ((L.length : Nat) : Int) := by omega
            have hk1' : (k : Int) < ((L.length : Nat) : Int) := by omega
            have hi0 : (0 : Int) ≤ (i : Int) := by omega
            have hk0 : (0 : Int) ≤ (k : Int) := by omega
            go_upto_region 13 with fail
            go_cut [9, 10] (fun p q wx => ∃ X Y, p = .pointer (some ⟨X, 0, none⟩) ∧ q = .pointer (some ⟨Y, 0, none⟩) ∧ Hid (Two u.w wx X Y a b))
            case first =>
              go_region_held3 (fun W => W.cell? ⟨lb, lo + i * 3, none⟩ = some (.int .u64 a.b) ∧ W.cell? ⟨lb, lo + i * 3 + 1, none⟩ = some (.int .u64 a.e) ∧ W.cell? ⟨lb, lo + i * 3 + 2, none⟩ = some (.int .i64 a.l) ∧ W.cell? ⟨lb, lo + k * 3, none⟩ = some (.int .u64 b.b) ∧ W.cell? ⟨lb, lo + k * 3 + 1, none⟩ = some (.int .u64 b.e) ∧ W.cell? ⟨lb, lo + k * 3 + 2, none⟩ = some (.int .i64 b.l)) (go_keep) (fail)
              all_goals
                go_wp2_with fail
                go_meet
                first | exact ⟨_, _, rfl, rfl, two_ab u.w a b⟩ | exact ⟨_, _, rfl, rfl, two_ba u.w a b⟩
            case rest =>
              obtain ⟨X, Y, rfl, rfl, HT⟩ := hcut
              have HTB : Hid (Below u.w.heap.size u.w wc) := HT.out.1
              have hXl : X < wc.heap.size := HT.out.2.1.lt
              have hYl : Y < wc.heap.size := HT.out.2.2.lt
              have HXc : Hid (IsCells wc X #[.int .u64 a.b, .int .u64 a.e, .int .i64 a.l]) := HT.out.2.1
              have HYc : Hid (IsCells wc Y #[.int .u64 b.b, .int .u64 b.e, .int .i64 b.l]) := HT.out.2.2
              have HTHR : Hid (∀ c, (anc a b && anc b c && !anc a c) = false ∧ (fol a b && fol b c && !fol a c) = false ∧ (anc a b && fol a c && !fol b c) = false) := fun c => thr_no hvb
              have HEX : Hid ((anc a b && fol a b) = false) := anc_fol hvb
              have HCN : Hid (cnt [slf a b, anc a b, anc b a, fol a b, fol b a] = 1) := HCNT.out
              clear HCNT HT hvb
              have c1 : ∀ W, Calls Try.prog 7 #[.agg #[.int .u64 a.b, .int .u64 a.e, .int .i64 a.l], .agg #[.int .u64 b.b, .int .u64 b.e, .int .i64 b.l]] W fun e w' => e = .returned (.bool (slf a b)) ∧ Below W.heap.size W w' := fun W => self_any W a b
              have c2 : ∀ W, Calls Try.prog 9 #[.agg #[.int .u64 a.b, .int .u64 a.e, .int .i64 a.l], .agg #[.int .u64 b.b, .int .u64 b.e, .int .i64 b.l]] W fun e w' => e = .returned (.bool (anc a b)) ∧ Below W.heap.size W w' := fun W => anc_any W a b
              have c3 : ∀ W, Calls Try.prog 11 #[.agg #[.int .u64 a.b, .int .u64 a.e, .int .i64 a.l], .agg #[.int .u64 b.b, .int .u64 b.e, .int .i64 b.l]] W fun e w' => e = .returned (.bool (anc b a)) ∧ Below W.heap.size W w' := fun W => desc_any W a b
              have c4 : ∀ W, Calls Try.prog 15 #[.agg #[.int .u64 a.b, .int .u64 a.e, .int .i64 a.l], .agg #[.int .u64 b.b, .int .u64 b.e, .int .i64 b.l]] W fun e w' => e = .returned (.bool (fol a b)) ∧ Below W.heap.size W w' := fun W => fol_any W a b
              have c5 : ∀ W, Calls Try.prog 17 #[.agg #[.int .u64 a.b, .int .u64 a.e, .int .i64 a.l], .agg #[.int .u64 b.b, .int .u64 b.e, .int .i64 b.l]] W fun e w' => e = .returned (.bool (fol b a)) ∧ Below W.heap.size W w' := fun W => prec_any W a b
              have d1 : ∀ W, Calls Try.prog 7 #[.agg #[.int .u64 b.b, .int .u64 b.e, .int .i64 b.l], .agg #[.int .u64 a.b, .int .u64 a.e, .int .i64 a.l]] W fun e w' => e = .returned (.bool (slf a b)) ∧ Below W.heap.size W w' := fun W => by rw [← slf_comm]; exact self_any W b a
              have d2 : ∀ W, Calls Try.prog 11 #[.agg #[.int .u64 b.b, .int .u64 b.e, .int .i64 b.l], .agg #[.int .u64 a.b, .int .u64 a.e, .int .i64 a.l]] W fun e w' => e = .returned (.bool (anc a b)) ∧ Below W.heap.size W w' := fun W => desc_any W b a
              have d3 : ∀ W, Calls Try.prog 9 #[.agg #[.int .u64 b.b, .int .u64 b.e, .int .i64 b.l], .agg #[.int .u64 a.b, .int .u64 a.e, .int .i64 a.l]] W fun e w' => e = .returned (.bool (anc b a)) ∧ Below W.heap.size W w' := fun W => anc_any W b a
              have d4 : ∀ W, Calls Try.prog 17 #[.agg #[.int .u64 b.b, .int .u64 b.e, .int .i64 b.l], .agg #[.int .u64 a.b, .int .u64 a.e, .int .i64 a.l]] W fun e w' => e = .returned (.bool (fol a b)) ∧ Below W.heap.size W w' := fun W => prec_any W b a
              have d5 : ∀ W, Calls Try.prog 15 #[.agg #[.int .u64 b.b, .int .u64 b.e, .int .i64 b.l], .agg #[.int .u64 a.b, .int .u64 a.e, .int .i64 a.l]] W fun e w' => e = .returned (.bool (fol b a)) ∧ Below W.heap.size W w' := fun W => fol_any W b a
              have xa0 : ∀ v : Bel wc, v.w.cell? ⟨X, 0, none⟩ = some (.int .u64 a.b) := fun v => by rw [v.cell _ _ hXl]; exact HXc.out.cell 0
              have xb0 : ∀ v : Bel wc, v.w.cell? ⟨Y, 0, none⟩ = some (.int .u64 b.b) := fun v => by rw [v.cell _ _ hYl]; exact HYc.out.cell 0
              have xa1 : ∀ v : Bel wc, v.w.cell? ⟨X, 1, none⟩ = some (.int .u64 a.e) := fun v => by rw [v.cell _ _ hXl]; exact HXc.out.cell 1
              have xb1 : ∀ v : Bel wc, v.w.cell? ⟨Y, 1, none⟩ = some (.int .u64 b.e) := fun v => by rw [v.cell _ _ hYl]; exact HYc.out.cell 1
              have xa2 : ∀ v : Bel wc, v.w.cell? ⟨X, 2, none⟩ = some (.int .i64 a.l) := fun v => by rw [v.cell _ _ hXl]; exact HXc.out.cell 2
              have xb2 : ∀ v : Bel wc, v.w.cell? ⟨Y, 2, none⟩ = some (.int .i64 b.l) := fun v => by rw [v.cell _ _ hYl]; exact HYc.out.cell 2
              generalize slf a b = t1 at *
              generalize anc a b = t2 at *
              generalize anc b a = t3 at *
              generalize fol a b = t4 at *
              generalize fol b a = t5 at *
              clear a0 a1 a2 b0 b1 b2
              obtain ⟨W1, hW1⟩ : ∃ W1, W1 = wc := ⟨_, rfl⟩
              subst hW1
              go_upto_region 15 with fail
              go_cut [12] (fun p wx => ∃ (G : Nat) (v : Bel W1), p = .slice (some ⟨G, 0, none⟩) 5 5 ∧ wx = v.w ∧ Hid (Bools v.w G [t1, t2, t3, t4, t5]))
              case first =>
                have hda0 : W1.drew.cell? ⟨X, 0, none⟩ = _ := xa0 ⟨_, (Below.refl W1.heap.size W1).drew⟩
                have hdb0 : W1.drew.cell? ⟨Y, 0, none⟩ = _ := xb0 ⟨_, (Below.refl W1.heap.size W1).drew⟩
                have hda1 : W1.drew.cell? ⟨X, 1, none⟩ = _ := xa1 ⟨_, (Below.refl W1.heap.size W1).drew⟩
                have hdb1 : W1.drew.cell? ⟨Y, 1, none⟩ = _ := xb1 ⟨_, (Below.refl W1.heap.size W1).drew⟩
                have hda2 : W1.drew.cell? ⟨X, 2, none⟩ = _ := xa2 ⟨_, (Below.refl W1.heap.size W1).drew⟩
                have hdb2 : W1.drew.cell? ⟨Y, 2, none⟩ = _ := xb2 ⟨_, (Below.refl W1.heap.size W1).drew⟩
                have tok0 : True := trivial
                have tok1 : True := trivial
                have tok2 : True := trivial
                have tok3 : True := trivial
                have tok4 : True := trivial
                go_region_held3 (fun W => W.cell? ⟨X, 0, none⟩ = some (.int .u64 a.b) ∧ W.cell? ⟨X, 1, none⟩ = some (.int .u64 a.e) ∧ W.cell? ⟨X, 2, none⟩ = some (.int .i64 a.l) ∧ W.cell? ⟨Y, 0, none⟩ = some (.int .u64 b.b) ∧ W.cell? ⟨Y, 1, none⟩ = some (.int .u64 b.e) ∧ W.cell? ⟨Y, 2, none⟩ = some (.int .i64 b.l)) (first | exact ⟨hda0, hda1, hda2, hdb0, hdb1, hdb2⟩ | exact ⟨xa0 _, xa1 _, xa2 _, xb0 _, xb1 _, xb2 _⟩ | go_keep)
                  (first
                    | (go_at_call 7; have _t := tok0; (with_reducible refine (Calls.bel_of (u := ⟨_, (Below.refl W1.heap.size W1).drew⟩) (c1 _)).mono ?_); rintro e _ ⟨rfl, p0, rfl⟩; clear tok0 _t)
                    | (go_at_call 9; have _t := tok1; (with_reducible refine (Calls.bel_of (u := p0) (c2 _)).mono ?_); rintro e _ ⟨rfl, p1, rfl⟩; clear tok1 _t)
                    | (go_at_call 11; have _t := tok2; (with_reducible refine (Calls.bel_of (u := p1) (c3 _)).mono ?_); rintro e _ ⟨rfl, p2, rfl⟩; clear tok2 _t)
                    | (go_at_call 15; have _t := tok3; (with_reducible refine (Calls.bel_of (u := p2) (c4 _)).mono ?_); rintro e _ ⟨rfl, p3, rfl⟩; clear tok3 _t)
                    | (go_at_call 17; have _t := tok4; (with_reducible refine (Calls.bel_of (u := p3) (c5 _)).mono ?_); rintro e _ ⟨rfl, p4, rfl⟩; clear tok4 _t))
                clear hda0 hda1 hda2 hdb0 hdb1 hdb2
                have HZ := bools_new p4.w [t1, t2, t3, t4, t5]
                go_wp2_with fail
                go_meet
                exact ⟨_, ⟨_, p4.h.alloc p4.h.size _⟩, rfl, rfl, HZ⟩
              case rest =>
                obtain ⟨G1, q0, rfl, rfl, HZ1⟩ := hcut
                go_upto_region 16 with fail
                go_cut [13] (fun p wx => ∃ (G : Nat) (v : Bel W1), p = .slice (some ⟨G, 0, none⟩) 5 5 ∧ wx = v.w ∧ Hid (Bools v.w G [t1, t2, t3, t4, t5]) ∧ Hid (Bools v.w G1 [t1, t2, t3, t4, t5]))
                case first =>
                  have ya0 : ∀ v : Bel q0.w, v.w.cell? ⟨X, 0, none⟩ = _ := fun v => xa0 ⟨v.w, q0.h.trans (v.h.mono q0.h.size)⟩
                  have ya1 : ∀ v : Bel q0.w, v.w.cell? ⟨X, 1, none⟩ = _ := fun v => xa1 ⟨v.w, q0.h.trans (v.h.mono q0.h.size)⟩
                  have ya2 : ∀ v : Bel q0.w, v.w.cell? ⟨X, 2, none⟩ = _ := fun v => xa2 ⟨v.w, q0.h.trans (v.h.mono q0.h.size)⟩
                  have yb0 : ∀ v : Bel q0.w, v.w.cell? ⟨Y, 0, none⟩ = _ := fun v => xb0 ⟨v.w, q0.h.trans (v.h.mono q0.h.size)⟩
                  have yb1 : ∀ v : Bel q0.w, v.w.cell? ⟨Y, 1, none⟩ = _ := fun v => xb1 ⟨v.w, q0.h.trans (v.h.mono q0.h.size)⟩
                  have yb2 : ∀ v : Bel q0.w, v.w.cell? ⟨Y, 2, none⟩ = _ := fun v => xb2 ⟨v.w, q0.h.trans (v.h.mono q0.h.size)⟩
                  have hda0 : q0.w.drew.cell? ⟨X, 0, none⟩ = _ := ya0 ⟨_, (Below.refl q0.w.heap.size q0.w).drew⟩
                  have hdb0 : q0.w.drew.cell? ⟨Y, 0, none⟩ = _ := yb0 ⟨_, (Below.refl q0.w.heap.size q0.w).drew⟩
                  have hda1 : q0.w.drew.cell? ⟨X, 1, none⟩ = _ := ya1 ⟨_, (Below.refl q0.w.heap.size q0.w).drew⟩
                  have hdb1 : q0.w.drew.cell? ⟨Y, 1, none⟩ = _ := yb1 ⟨_, (Below.refl q0.w.heap.size q0.w).drew⟩
                  have hda2 : q0.w.drew.cell? ⟨X, 2, none⟩ = _ := ya2 ⟨_, (Below.refl q0.w.heap.size q0.w).drew⟩
                  have hdb2 : q0.w.drew.cell? ⟨Y, 2, none⟩ = _ := yb2 ⟨_, (Below.refl q0.w.heap.size q0.w).drew⟩
                  have tok0 : True := trivial
                  have tok1 : True := trivial
                  have tok2 : True := trivial
                  have tok3 : True := trivial
                  have tok4 : True := trivial
                  go_region_held3 (fun W => W.cell? ⟨X, 0, none⟩ = some (.int .u64 a.b) ∧ W.cell? ⟨X, 1, none⟩ = some (.int .u64 a.e) ∧ W.cell? ⟨X, 2, none⟩ = some (.int .i64 a.l) ∧ W.cell? ⟨Y, 0, none⟩ = some (.int .u64 b.b) ∧ W.cell? ⟨Y, 1, none⟩ = some (.int .u64 b.e) ∧ W.cell? ⟨Y, 2, none⟩ = some (.int .i64 b.l)) (first | exact ⟨hda0, hda1, hda2, hdb0, hdb1, hdb2⟩ | exact ⟨ya0 _, ya1 _, ya2 _, yb0 _, yb1 _, yb2 _⟩ | go_keep)
                    (first
                      | (go_at_call 7; have _t := tok0; (with_reducible refine (Calls.bel_of (u := ⟨_, (Below.refl q0.w.heap.size q0.w).drew⟩) (d1 _)).mono ?_); rintro e _ ⟨rfl, r0, rfl⟩; clear tok0 _t)
                      | (go_at_call 11; have _t := tok1; (with_reducible refine (Calls.bel_of (u := r0) (d2 _)).mono ?_); rintro e _ ⟨rfl, r1, rfl⟩; clear tok1 _t)
                      | (go_at_call 9; have _t := tok2; (with_reducible refine (Calls.bel_of (u := r1) (d3 _)).mono ?_); rintro e _ ⟨rfl, r2, rfl⟩; clear tok2 _t)
                      | (go_at_call 17; have _t := tok3; (with_reducible refine (Calls.bel_of (u := r2) (d4 _)).mono ?_); rintro e _ ⟨rfl, r3, rfl⟩; clear tok3 _t)
                      | (go_at_call 15; have _t := tok4; (with_reducible refine (Calls.bel_of (u := r3) (d5 _)).mono ?_); rintro e _ ⟨rfl, r4, rfl⟩; clear tok4 _t))
                  clear hda0 hda1 hda2 hdb0 hdb1 hdb2
                  have HZ := bools_new r4.w [t1, t2, t3, t4, t5]
                  go_wp2_with fail
                  go_meet
                  exact ⟨_, ⟨_, q0.h.trans ((r4.h.alloc r4.h.size _).mono q0.h.size)⟩, rfl, rfl, HZ, HZ1.out.to (r4.h.alloc r4.h.size _) (Nat.le_refl _)⟩
                case rest =>
                  obtain ⟨G2, v, rfl, rfl, HZ2, HZ1'⟩ := hcut
                  clear HZ1 d1 d2 d3 d4 d5 c1 c3 c5
                  have HZL : Hid ([t1, t2, t3, t4, t5].length = 5) := rfl
                  generalize [t1, t2, t3, t4, t5] = Z at *
                  go_wp2
                  go_loopw [14, 11] (fun o n wr => ∃ (j : Nat) (v : Bel W1), j ≤ 5 ∧ o = .int .i64 (j : Int) ∧ n = .int .i64 (cnt (Z.take j)) ∧ wr = v.w ∧ Hid (Bools v.w G1 Z) ∧ Hid (Bools v.w G2 Z)) (fun o _ _ => 5 - (intOf o).toNat)
                  case atStart => exact ⟨0, v, by omega, rfl, rfl, rfl, HZ1', HZ2⟩
                  case round =>
                    obtain ⟨j, v, hj, rfl, rfl, rfl, HY1, HY2⟩ := hrel
                    obtain ⟨hcl1, hcl2⟩ := cnt_le Z j
                    by_cases hjl : j < 5
                    · obtain ⟨t, ht⟩ : ∃ t, Z[j]? = some t := ⟨_, List.getElem?_eq_getElem (by rw [HZL.out]; exact hjl)⟩
                      have HCS : Hid (cnt (Z.take (j + 1)) = cnt (Z.take j) + if t = true then 1 else 0) := cnt_snoc ht
                      have hy1 := HY1.out.2 j t ht
                      have hy2 := HY2.out.2 j t ht
                      have hy1' : ∀ r : Bel v.w, r.w.cell? ⟨G1, j, none⟩ = some (.bool t) := fun r => by rw [r.cell _ _ HY1.out.1]; exact hy1
                      have hy2' : ∀ r : Bel v.w, r.w.cell? ⟨G2, j, none⟩ = some (.bool t) := fun r => by rw [r.cell _ _ HY2.out.1]; exact hy2
                      have hj0 : (0 : Int) ≤ (j : Int) := by omega
                      have hj5 : (j : Int) < 5 := by omega
                      clear ht
                      cases t
                      · go_wp2_with fail
                        refine wp_region_bel (by kernel_rfl) (by kernel_rfl) ?_
                        intro hne
                        repeat go_big_quiet_step (fail)
                        refine wpQuiet_nil ?_
                        rintro _ ⟨r, rfl⟩
                        go_wp2
                        go_roundw
                        case rel => exact ⟨j + 1, ⟨r.w, v.h.trans (r.h.mono v.h.size)⟩, by omega, by go_num, by rw [HCS.out]; simp, rfl, HY1.out.to r.h (Nat.le_refl _), HY2.out.to r.h (Nat.le_refl _)⟩
                        case measure => simp [intOf]; omega
                      · go_wp2_with fail
                        refine wp_region_bel (by kernel_rfl) (by kernel_rfl) ?_
                        intro hne
                        repeat go_big_quiet_step (fail)
                        refine wpQuiet_nil ?_
                        rintro _ ⟨r, rfl⟩
                        go_wp2
                        go_roundw
                        case rel => exact ⟨j + 1, ⟨r.w, v.h.trans (r.h.mono v.h.size)⟩, by omega, by go_num, by rw [HCS.out]; simp, rfl, HY1.out.to r.h (Nat.le_refl _), HY2.out.to r.h (Nat.le_refl _)⟩
                        case measure => simp [intOf]; omega
                    · have hcn : (cnt (Z.take j) != 1) = false := by
                        rw [List.take_of_length_le (by rw [HZL.out]; omega), HCN.out]
                        rfl
                      have hv2 : ∃ v2 : Bel W1, v2 = v := ⟨_, rfl⟩
                      obtain ⟨v2, hv2⟩ := hv2
                      subst hv2
                      clear HZ1' HZ2 HY1 HY2 HCN HZL
                      go_wp2
                      go_loopw [15] (fun o wr => ∃ (m : Nat) (v : Bel W1), m ≤ L.length ∧ m ≤ 12 ∧ o = .int .i64 (m : Int) ∧ wr = v.w) (fun o _ => 12 - (intOf o).toNat)
                      case atStart => exact ⟨0, v2, by omega, by omega, rfl, rfl⟩
                      case round =>
                        obtain ⟨m, v, hm, hm12, rfl, rfl⟩ := hrel
                        by_cases hml : m < L.length
                        · by_cases hm2 : m < 12
                          · obtain ⟨c, hc⟩ : ∃ c, L[m]? = some c := ⟨_, List.getElem?_eq_getElem hml⟩
                            obtain ⟨lb', lo', e9, -, l0, l1, l2⟩ := (HA.out.below (u.comp HTB.out v) (Nat.le_refl _)) m c hc
                            simp only [Option.some.injEq, Addr.mk.injEq, and_true] at e9
                            obtain ⟨rfl, rfl⟩ := e9
                            have HTH : Hid ((t2 && anc b c && !anc a c) = false ∧ (t4 && fol b c && !fol a c) = false ∧ (t2 && fol a c && !fol b c) = false) := HTHR.out c
                            have hm40 : decide ((m : Int) < 12) = true := by rw [decide_eq_true_eq]; omega
                            have HCC : Hid (IsCells (v.w.alloc (.cells #[.int .u64 c.b, .int .u64 c.e, .int .i64 c.l] 24)) v.w.heap.size #[.int .u64 c.b, .int .u64 c.e, .int .i64 c.l]) := isCells_new _ _ _
                            have hG3 : v.w.heap.size < (v.w.alloc (.cells #[.int .u64 c.b, .int .u64 c.e, .int .i64 c.l] 24)).heap.size := by simp
                            have HR : Hid (∀ r : Bel (v.w.alloc (.cells #[.int .u64 c.b, .int .u64 c.e, .int .i64 c.l] 24)), Below W1.heap.size W1 r.w) := fun r => (v.h.alloc v.h.size _).trans (r.h.mono (by have := v.h.size; simp; omega))
                            have HCOMP : Hid (∀ r : Bel (v.w.alloc (.cells #[.int .u64 c.b, .int .u64 c.e, .int .i64 c.l] 24)), Below W1.heap.size W1 r.w) := HR
                            have e1 : ∀ W, Calls Try.prog 9 #[.agg #[.int .u64 b.b, .int .u64 b.e, .int .i64 b.l], .agg #[.int .u64 c.b, .int .u64 c.e, .int .i64 c.l]] W fun e w' => e = .returned (.bool (anc b c)) ∧ Below W.heap.size W w' := fun W => anc_any W b c
                            have e2 : ∀ W, Calls Try.prog 9 #[.agg #[.int .u64 a.b, .int .u64 a.e, .int .i64 a.l], .agg #[.int .u64 c.b, .int .u64 c.e, .int .i64 c.l]] W fun e w' => e = .returned (.bool (anc a c)) ∧ Below W.heap.size W w' := fun W => anc_any W a c
                            have e3 : ∀ W, Calls Try.prog 15 #[.agg #[.int .u64 b.b, .int .u64 b.e, .int .i64 b.l], .agg #[.int .u64 c.b, .int .u64 c.e, .int .i64 c.l]] W fun e w' => e = .returned (.bool (fol b c)) ∧ Below W.heap.size W w' := fun W => fol_any W b c
                            have e4 : ∀ W, Calls Try.prog 15 #[.agg #[.int .u64 a.b, .int .u64 a.e, .int .i64 a.l], .agg #[.int .u64 c.b, .int .u64 c.e, .int .i64 c.l]] W fun e w' => e = .returned (.bool (fol a c)) ∧ Below W.heap.size W w' := fun W => fol_any W a c
                            clear hc
                            have xav0 := xa0 v
                            have xav1 := xa1 v
                            have xav2 := xa2 v
                            have xbv0 := xb0 v
                            have xbv1 := xb1 v
                            have xbv2 := xb2 v
                            have hXv : X < v.w.heap.size := Nat.lt_of_lt_of_le hXl v.h.size
                            have hYv : Y < v.w.heap.size := Nat.lt_of_lt_of_le hYl v.h.size
                            go_wp2_with fail
                            with_reducible refine (Calls.bel_first (c2 _)).mono ?_
                            rintro e _ ⟨rfl, g1, rfl⟩
                            clear l0 l1 l2 xav0 xav1 xav2 xbv0 xbv1 xbv2
                            generalize v.w.alloc (.cells #[.int .u64 c.b, .int .u64 c.e, .int .i64 c.l] 24) = W3 at *
                            generalize v.w.heap.size = G3 at *
                            have za0 : ∀ r : Bel W3, r.w.cell? ⟨X, 0, none⟩ = some (.int .u64 a.b) := fun r => xa0 ⟨r.w, HR.out r⟩
                            have za1 : ∀ r : Bel W3, r.w.cell? ⟨X, 1, none⟩ = some (.int .u64 a.e) := fun r => xa1 ⟨r.w, HR.out r⟩
                            have za2 : ∀ r : Bel W3, r.w.cell? ⟨X, 2, none⟩ = some (.int .i64 a.l) := fun r => xa2 ⟨r.w, HR.out r⟩
                            have zb0 : ∀ r : Bel W3, r.w.cell? ⟨Y, 0, none⟩ = some (.int .u64 b.b) := fun r => xb0 ⟨r.w, HR.out r⟩
                            have zb1 : ∀ r : Bel W3, r.w.cell? ⟨Y, 1, none⟩ = some (.int .u64 b.e) := fun r => xb1 ⟨r.w, HR.out r⟩
                            have zb2 : ∀ r : Bel W3, r.w.cell? ⟨Y, 2, none⟩ = some (.int .i64 b.l) := fun r => xb2 ⟨r.w, HR.out r⟩
                            have zc0 : ∀ r : Bel W3, r.w.cell? ⟨G3, 0, none⟩ = some (.int .u64 c.b) := fun r => by rw [r.cell _ _ hG3]; exact HCC.out.cell 0
                            have zc1 : ∀ r : Bel W3, r.w.cell? ⟨G3, 1, none⟩ = some (.int .u64 c.e) := fun r => by rw [r.cell _ _ hG3]; exact HCC.out.cell 1
                            have zc2 : ∀ r : Bel W3, r.w.cell? ⟨G3, 2, none⟩ = some (.int .i64 c.l) := fun r => by rw [r.cell _ _ hG3]; exact HCC.out.cell 2
                            cases t2
                            · cases t4
                              · clear HTH HEX
                                go_wp2_with (first | (go_at_call 9; with_reducible refine (Calls.bel_of (c2 _)).mono ?_; rintro e _ ⟨rfl, g1, rfl⟩) | (go_at_call 9; with_reducible refine (Calls.bel_of (e1 _)).mono ?_; rintro e _ ⟨rfl, g2, rfl⟩) | (go_at_call 9; with_reducible refine (Calls.bel_of (e2 _)).mono ?_; rintro e _ ⟨rfl, g3, rfl⟩) | (go_at_call 15; with_reducible refine (Calls.bel_of (c4 _)).mono ?_; rintro e _ ⟨rfl, g4, rfl⟩) | (go_at_call 15; with_reducible refine (Calls.bel_of (e3 _)).mono ?_; rintro e _ ⟨rfl, g5, rfl⟩) | (go_at_call 15; with_reducible refine (Calls.bel_of (e4 _)).mono ?_; rintro e _ ⟨rfl, g6, rfl⟩))
                                go_roundw
                                case rel => exact ⟨m + 1, ⟨_, HCOMP.out g1⟩, by omega, by omega, by go_num, rfl⟩
                                case measure => simp [intOf]; omega
                              · cases hf : fol b c
                                · rw [hf] at e3
                                  clear HTH HEX hf
                                  go_wp2_with (first | (go_at_call 9; with_reducible refine (Calls.bel_of (c2 _)).mono ?_; rintro e _ ⟨rfl, g1, rfl⟩) | (go_at_call 9; with_reducible refine (Calls.bel_of (e1 _)).mono ?_; rintro e _ ⟨rfl, g2, rfl⟩) | (go_at_call 9; with_reducible refine (Calls.bel_of (e2 _)).mono ?_; rintro e _ ⟨rfl, g3, rfl⟩) | (go_at_call 15; with_reducible refine (Calls.bel_of (c4 _)).mono ?_; rintro e _ ⟨rfl, g4, rfl⟩) | (go_at_call 15; with_reducible refine (Calls.bel_of (e3 _)).mono ?_; rintro e _ ⟨rfl, g5, rfl⟩) | (go_at_call 15; with_reducible refine (Calls.bel_of (e4 _)).mono ?_; rintro e _ ⟨rfl, g6, rfl⟩))
                                  go_roundw
                                  case rel => exact ⟨m + 1, ⟨_, HCOMP.out g1⟩, by omega, by omega, by go_num, rfl⟩
                                  case measure => simp [intOf]; omega
                                · have hf2 : fol a c = true := by
                                    have := HTH.out.2.1
                                    rw [hf] at this
                                    simpa using this
                                  rw [hf] at e3
                                  rw [hf2] at e4
                                  clear HTH HEX hf hf2
                                  go_wp2_with (first | (go_at_call 9; with_reducible refine (Calls.bel_of (c2 _)).mono ?_; rintro e _ ⟨rfl, g1, rfl⟩) | (go_at_call 9; with_reducible refine (Calls.bel_of (e1 _)).mono ?_; rintro e _ ⟨rfl, g2, rfl⟩) | (go_at_call 9; with_reducible refine (Calls.bel_of (e2 _)).mono ?_; rintro e _ ⟨rfl, g3, rfl⟩) | (go_at_call 15; with_reducible refine (Calls.bel_of (c4 _)).mono ?_; rintro e _ ⟨rfl, g4, rfl⟩) | (go_at_call 15; with_reducible refine (Calls.bel_of (e3 _)).mono ?_; rintro e _ ⟨rfl, g5, rfl⟩) | (go_at_call 15; with_reducible refine (Calls.bel_of (e4 _)).mono ?_; rintro e _ ⟨rfl, g6, rfl⟩))
                                  go_roundw
                                  case rel => exact ⟨m + 1, ⟨_, HCOMP.out g1⟩, by omega, by omega, by go_num, rfl⟩
                                  case measure => simp [intOf]; omega
                            · have ht4 : t4 = false := by simpa using HEX.out
                              subst ht4
                              cases hs : anc b c
                              · rw [hs] at e1
                                cases hf : fol a c
                                · rw [hf] at e4
                                  clear HTH HEX hf hs
                                  go_wp2_with (first | (go_at_call 9; with_reducible refine (Calls.bel_of (c2 _)).mono ?_; rintro e _ ⟨rfl, g1, rfl⟩) | (go_at_call 9; with_reducible refine (Calls.bel_of (e1 _)).mono ?_; rintro e _ ⟨rfl, g2, rfl⟩) | (go_at_call 9; with_reducible refine (Calls.bel_of (e2 _)).mono ?_; rintro e _ ⟨rfl, g3, rfl⟩) | (go_at_call 15; with_reducible refine (Calls.bel_of (c4 _)).mono ?_; rintro e _ ⟨rfl, g4, rfl⟩) | (go_at_call 15; with_reducible refine (Calls.bel_of (e3 _)).mono ?_; rintro e _ ⟨rfl, g5, rfl⟩) | (go_at_call 15; with_reducible refine (Calls.bel_of (e4 _)).mono ?_; rintro e _ ⟨rfl, g6, rfl⟩))
                                  go_roundw
                                  case rel => exact ⟨m + 1, ⟨_, HCOMP.out g6⟩, by omega, by omega, by go_num, rfl⟩
                                  case measure => simp [intOf]; omega
                                · have hf2 : fol b c = true := by
                                    have := HTH.out.2.2
                                    rw [hf] at this
                                    simpa using this
                                  rw [hf] at e4
                                  rw [hf2] at e3
                                  clear HTH HEX hf hs hf2
                                  go_wp2_with (first | (go_at_call 9; with_reducible refine (Calls.bel_of (c2 _)).mono ?_; rintro e _ ⟨rfl, g1, rfl⟩) | (go_at_call 9; with_reducible refine (Calls.bel_of (e1 _)).mono ?_; rintro e _ ⟨rfl, g2, rfl⟩) | (go_at_call 9; with_reducible refine (Calls.bel_of (e2 _)).mono ?_; rintro e _ ⟨rfl, g3, rfl⟩) | (go_at_call 15; with_reducible refine (Calls.bel_of (c4 _)).mono ?_; rintro e _ ⟨rfl, g4, rfl⟩) | (go_at_call 15; with_reducible refine (Calls.bel_of (e3 _)).mono ?_; rintro e _ ⟨rfl, g5, rfl⟩) | (go_at_call 15; with_reducible refine (Calls.bel_of (e4 _)).mono ?_; rintro e _ ⟨rfl, g6, rfl⟩))
                                  go_roundw
                                  case rel => exact ⟨m + 1, ⟨_, HCOMP.out g5⟩, by omega, by omega, by go_num, rfl⟩
                                  case measure => simp [intOf]; omega
                              · rw [hs] at e1
                                have hs2 : anc a c = true := by
                                  have := HTH.out.1
                                  rw [hs] at this
                                  simpa using this
                                rw [hs2] at e2
                                cases hf : fol a c
                                · rw [hf] at e4
                                  clear HTH HEX hf hs hs2
                                  go_wp2_with (first | (go_at_call 9; with_reducible refine (Calls.bel_of (c2 _)).mono ?_; rintro e _ ⟨rfl, g1, rfl⟩) | (go_at_call 9; with_reducible refine (Calls.bel_of (e1 _)).mono ?_; rintro e _ ⟨rfl, g2, rfl⟩) | (go_at_call 9; with_reducible refine (Calls.bel_of (e2 _)).mono ?_; rintro e _ ⟨rfl, g3, rfl⟩) | (go_at_call 15; with_reducible refine (Calls.bel_of (c4 _)).mono ?_; rintro e _ ⟨rfl, g4, rfl⟩) | (go_at_call 15; with_reducible refine (Calls.bel_of (e3 _)).mono ?_; rintro e _ ⟨rfl, g5, rfl⟩) | (go_at_call 15; with_reducible refine (Calls.bel_of (e4 _)).mono ?_; rintro e _ ⟨rfl, g6, rfl⟩))
                                  go_roundw
                                  case rel => exact ⟨m + 1, ⟨_, HCOMP.out g6⟩, by omega, by omega, by go_num, rfl⟩
                                  case measure => simp [intOf]; omega
                                · have hf2 : fol b c = true := by
                                    have := HTH.out.2.2
                                    rw [hf] at this
                                    simpa using this
                                  rw [hf] at e4
                                  rw [hf2] at e3
                                  clear HTH HEX hf hs hf2 hs2
                                  go_wp2_with (first | (go_at_call 9; with_reducible refine (Calls.bel_of (c2 _)).mono ?_; rintro e _ ⟨rfl, g1, rfl⟩) | (go_at_call 9; with_reducible refine (Calls.bel_of (e1 _)).mono ?_; rintro e _ ⟨rfl, g2, rfl⟩) | (go_at_call 9; with_reducible refine (Calls.bel_of (e2 _)).mono ?_; rintro e _ ⟨rfl, g3, rfl⟩) | (go_at_call 15; with_reducible refine (Calls.bel_of (c4 _)).mono ?_; rintro e _ ⟨rfl, g4, rfl⟩) | (go_at_call 15; with_reducible refine (Calls.bel_of (e3 _)).mono ?_; rintro e _ ⟨rfl, g5, rfl⟩) | (go_at_call 15; with_reducible refine (Calls.bel_of (e4 _)).mono ?_; rintro e _ ⟨rfl, g6, rfl⟩))
                                  go_roundw
                                  case rel => exact ⟨m + 1, ⟨_, HCOMP.out g5⟩, by omega, by omega, by go_num, rfl⟩
                                  case measure => simp [intOf]; omega
                          · go_wp2
                            go_roundw
                            case rel => exact ⟨k + 1, ⟨v.w, u.comp HTB.out v⟩, by omega, by omega, by go_num, rfl⟩
                            case measure => simp [intOf]; omega
                        · go_wp2
                          go_roundw
                          case rel => exact ⟨k + 1, ⟨v.w, u.comp HTB.out v⟩, by omega, by omega, by go_num, rfl⟩
                          case measure => simp [intOf]; omega
          · have hfin : ¬ (k < L.length) ∨ ¬ (k < 40) := by omega
            by_cases hkl : k < L.length
            · have hk5 : ¬ k < 40 := by omega
              clear hfin hltk
              go_wp2
              go_roundw
              case rel => exact ⟨i + 1, u, by omega, by omega, by go_num, rfl⟩
              case measure => simp [intOf]; omega
            · clear hfin hltk
              go_wp2
              go_roundw
              case rel => exact ⟨i + 1, u, by omega, by omega, by go_num, rfl⟩
              case measure => simp [intOf]; omega
      · have hfin : ¬ (i < L.length) ∨ ¬ (i < 40) := by omega
        by_cases hil : i < L.length
        · have hi5 : ¬ i < 40 := by omega
          clear hfin hlt
          go_wp2_with fail
          with_reducible refine (Calls.bel_of (hancl _)).mono ?_
          rintro e _ ⟨rfl, u2, rfl⟩
          go_wp2
          go_ret
          exact ⟨rfl, u2.h⟩
        · clear hfin hlt
          go_wp2_with fail
          with_reducible refine (Calls.bel_of (hancl _)).mono ?_
          rintro e _ ⟨rfl, u2, rfl⟩
          go_wp2
          go_ret
          exact ⟨rfl, u2.h⟩
  · have hyb : (y2 != 0) = true := by simpa using hy
    clear hy HGOOD
    obtain ⟨u, hu⟩ : ∃ u : Bel w, z = u.w := ⟨⟨z, HB3.out⟩, rfl⟩
    subst hu
    go_wp2_with fail
    with_reducible refine (Calls.bel_of (hself _)).mono ?_
    rintro e _ ⟨rfl, u2, rfl⟩
    go_wp2
    go_ret
    exact ⟨rfl, u2.h⟩

end Go.Proofs.Ytfhbfilmejegcaa
