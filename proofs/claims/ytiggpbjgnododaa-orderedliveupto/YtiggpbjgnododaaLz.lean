/- OrderedLive: the law, walked. -/
import Derived.Test.YtiggpbjgnododaaLf
namespace Go.Proofs.Ytiggpbjgnododaa.L
open Go.RowKit Go.Shelf
open T (bel1 cell_at kf bel_drewN')
set_option linter.unusedVariables false
attribute [local go_sem] Oper.semAt_some

/-- How far the table goes. -/
def bnd : Nat → Int
  | 0 => 1073741824
  | 1 => 549755813888
  | _ => 281474976710656
def Bd (p : Nat) (t : List Int) : Prop := ∀ (i : Nat) (v : Int), t[i]? = some v → -(bnd p) ≤ v ∧ v ≤ bnd p

set_option maxRecDepth 100000 in
set_option maxHeartbeats 4000000 in
theorem live_walk (a : Option Addr) (n ca : Nat) (b : Option Addr) (nb cb : Nat) (c : Int) (w : World) (h : IsBytes w a n) (hp : IsBytes w b nb) (hn : n ≤ 1048576) (hnb : nb ≤ 4398046511104) (hc0 : 0 ≤ c) (hc1 : c ≤ 255) :
    Calls Try.prog 6 #[.slice a n ca, .slice b nb cb, .int .u8 c] w fun e w' => e = .returned (.bool true) ∧ Below w.heap.size w w' := by
  have hn' : (n : Int) ≤ 1048576 := by omega
  have hnb' : (nb : Int) ≤ 4398046511104 := by omega
  obtain ⟨n1, hn1⟩ : ∃ n1, n1 = n + 1 := ⟨_, rfl⟩
  have hmk := fun W => make_table W n n1 (by omega) hn1
  have Hn1 : Hid (n1 = n + 1) := hn1
  have hn2 : (n : Int) < (n1 : Int) := by omega
  have hn3 : (n1 : Int) ≤ 1048577 := by omega
  have hn4 : (0 : Int) < (n1 : Int) := by omega
  clear hn1
  have HA : Hid (IsBytes w a n) := h
  have HP : Hid (IsBytes w b nb) := hp
  have HT0 : Hid (Tw w n1 0 (List.replicate n1 0) _) := Tw.new w n1
  clear h hp
  refine (callsIn_wide (n := 0)).1 ?_
  refine callsIn_of_wp_marks Try.func6 rfl trivial ?_ rfl
  simp only [Try.ntmps6, List.size_toArray, List.length_cons, List.length_nil, Nat.reduceAdd, Nat.reduceSub, Array.replicate_succ, Array.replicate_zero, List.push_toArray, List.append_toArray, List.nil_append, List.cons_append]
  gi_wp2_with fail
  gi_loopw [8] (fun i wr => ∃ (k : Nat) (t : List Int), k ≤ n ∧ i = .int .i64 (k : Int) ∧ Hid (Tw w n1 k t wr)) (fun i _ => n - (intOf i).toNat)
  case atStart => exact ⟨0, _, Nat.zero_le _, rfl, HT0⟩
  case round =>
    obtain ⟨k, t, hk, rfl, hT⟩ := hrel
    clear HT0
    by_cases hlt : k < n
    · obtain ⟨g, off, v, rfl, hg, z0, z1, z2⟩ := HA.out k hlt
      obtain ⟨u, hu⟩ : ∃ u, t[k]? = some u := ⟨_, List.getElem?_eq_getElem (by have := hT.out.tab.len; have := Hn1.out; omega)⟩
      have hlo := hT.out.low k u (Nat.le_refl _) hu
      have y0 : wr.cell? ⟨g, off + k, none⟩ = some (.int .u8 v) := (hT.out.bel.cell (p := ⟨g, off + k, none⟩) hg).trans z0
      have y1 : wr.cell? ⟨w.heap.size + 1 + 1, 0, none⟩ = some (.slice (some ⟨w.heap.size + 1, 0, none⟩) n1 n1) := cell_at hT.out.tab.box 0
      have y2 : wr.cell? ⟨w.heap.size + 1, k, none⟩ = some (.int .i64 u) := hT.out.tab.at hu
      have y3 : wr.frozen? ⟨w.heap.size + 1, k + 1, none⟩ = false := by simp [World.frozen?, hT.out.tab.row]
      obtain ⟨u', hu'⟩ : ∃ u', wr.cell? ⟨w.heap.size + 1, k + 1, none⟩ = some (.int .i64 u') := ⟨_, hT.out.tab.at (List.getElem?_eq_getElem (by have := hT.out.tab.len; have := Hn1.out; omega))⟩
      have hk1 : (k : Int) < (n : Int) := by omega
      have hk2 : (0 : Int) ≤ (k : Int) := by omega
      have hST := hT.out.step (by have := Hn1.out; omega) hu z1 z2 1
      have HST : Hid (Tw w n1 (k + 1) (t.set (k + 1) (u + 1 + v)) (wr.setCell ⟨w.heap.size + 1, k + 1, none⟩ (.int .i64 (u + 1 + v))).drew) := hST
      have hu2 : u ≤ 1073741824 := by omega
      have hu3 : (0 : Int) ≤ u := hlo.1
      have Hu : Hid (t[k]? = some u) := hu
      have hk3 : (k : Int) < (n1 : Int) := by omega
      have hk4 : k + 1 < n1 := by have := Hn1.out; omega
      have hk8 : (0 : Int) ≤ (k : Int) + 1 := by omega
      have hk9 : (k : Int) + 1 < (n1 : Int) := by omega
      have hk5 : IntKind.i64.wrap ((k : Int) + 1) = (k : Int) + 1 := by simp [IntKind.wrap, IntKind.bits, IntKind.signed]; omega
      have hk10 : IntKind.i64.wrap v = v := by simp [IntKind.wrap, IntKind.bits, IntKind.signed]; omega
      have hk6 : IntKind.i64.wrap (u + 1) = u + 1 := by simp [IntKind.wrap, IntKind.bits, IntKind.signed]; omega
      have hk7 : IntKind.i64.wrap (u + 1 + v) = u + 1 + v := by simp [IntKind.wrap, IntKind.bits, IntKind.signed]; omega
      clear hT hST z0 hu hlo
      gi_wp2_with fail
      refine wpIn_wide.2 ?_
      have hkeep : (wr.setCell ⟨w.heap.size + 1, k + 1, none⟩ (.int .i64 (u + 1 + v))).drew.cell? ⟨w.heap.size + 1, k, none⟩ = some (.int .i64 u) := HST.out.tab.at (by rw [List.getElem?_set_ne (by omega)]; exact Hu.out)
      have ng1 : ¬ (g = w.heap.size + 1) := by omega
      have ng2 : ¬ (w.heap.size + 1 = g) := by omega
      go_region_held3 (fun W => W.cell? ⟨w.heap.size + 1 + 1, 0, none⟩ = some (.slice (some ⟨w.heap.size + 1, 0, none⟩) n1 n1) ∧ W.cell? ⟨w.heap.size + 1, k, none⟩ = some (.int .i64 u) ∧ W.cell? ⟨g, off + k, none⟩ = some (.int .u8 v)) (go_keep) (fail)
      gi_wp2
      go_roundw
      case rel => exact ⟨k + 1, _, by omega, by go_num, HST⟩
      case measure => simp [intOf]; omega
    · obtain rfl : k = n := by omega
      have hd0 : decide ((k : Int) < (k : Int)) = false := by simp
      have hnew := I.new_any wr 24 #[.pointer (some ⟨w.heap.size + 2, 0, none⟩)]
      have HMD : Hid (Md w n1 t [] [] _) := Md.new w n1 t wr hT.out.res hT.out.tab (hT.out.up Hn1.out) hT.out.siz hT.out.bel
      have HB0 : Hid (Bd 0 t) := fun i v hv => by
        have h1 := hT.out.low i v (by have := (List.getElem?_eq_some_iff.1 hv).1; have := hT.out.tab.len; have := Hn1.out; omega) hv
        have h2 := (List.getElem?_eq_some_iff.1 hv).1
        have := hT.out.tab.len
        have := Hn1.out
        simp only [bnd]
        omega
      have hsz : wr.heap.size = w.heap.size + 3 := hT.out.siz
      have hmf : ∀ (fn : Fn) (first cap : Array Value) (w : World), (Instr.makeFunc fn first cap).run Try.prog w = .ok (.func fn first cap) w := fun _ _ _ _ => rfl
      clear hT
      gi_wp2_with fail
      refine ⟨trivial, rfl, (callsIn_wide.2 hnew).mono ?_⟩
      rintro e W2 ⟨rfl, rfl⟩
      clear hnew
      gi_wp2_with fail
      gi_loopw [12] (fun pv wq => ∃ (p : Nat) (t : List Int) (L : List Int), p ≤ 2 ∧ pv = .int .i64 (p : Int) ∧ Hid (Md w n1 t L L wq) ∧ Hid (Bd p t)) (fun pv _ => 2 - (intOf pv).toNat)
      case atStart => exact ⟨0, t, [], by omega, rfl, HMD, HB0⟩
      case round =>
        rename_i wq0
        obtain ⟨p, t1, L, hp2, rfl, hMd, hBd⟩ := hrel
        clear HMD HB0
        by_cases hplt : p < 2
        · have hpl : (p : Int) < 2 := by omega
          gi_wp2_with fail
          gi_loopw [13] (fun jv wr => ∃ (j : Nat) (L : List Int), j ≤ nb ∧ jv = .int .i64 (j : Int) ∧ Hid (Md w n1 t1 L L wr)) (fun jv _ => nb - (intOf jv).toNat)
          case atStart => exact ⟨0, L, Nat.zero_le _, rfl, hMd⟩
          case round =>
            obtain ⟨j, L2, hj, rfl, hM2⟩ := hrel
            clear hMd
            by_cases hjl : j < nb
            · obtain ⟨g, off, v, rfl, hg, z0, z1, z2⟩ := HP.out j hjl
              have HM2 : Hid (Md w n1 t1 L2 L2 wr) := hM2
              have hM2s : w.heap.size + 6 ≤ wr.heap.size := (Array.getElem?_eq_some_iff.1 hM2.out.dbx).1
              have y0 : wr.cell? ⟨g, off + j, none⟩ = some (.int .u8 v) := (hM2.out.bel.cell (p := ⟨g, off + j, none⟩) hg).trans z0
              have y1 : wr.cell? ⟨w.heap.size + 1 + 1, 0, none⟩ = some (.slice (some ⟨w.heap.size + 1, 0, none⟩) n1 n1) := cell_at hM2.out.tab.box 0
              have hj1 : (j : Int) < (nb : Int) := by omega
              have hj2 : (0 : Int) ≤ (j : Int) := by omega
              have hz : ¬ ((n1 : Int) = 0) := by omega
              have hz' : ¬ (n1 = 0) := by omega
              have hr0 : 0 ≤ Int.tmod v (n1 : Int) := Int.tmod_nonneg _ z1
              have hr1 : Int.tmod v (n1 : Int) < (n1 : Int) := Int.tmod_lt_of_pos _ (by omega)
              obtain ⟨r, hr⟩ : ∃ r, Hid (v % (n1 : Int) = r) := ⟨_, rfl⟩
              have hrr : 0 ≤ r ∧ r < (n1 : Int) := by
                rw [← hr.out]
                exact ⟨Int.emod_nonneg _ (by omega), Int.emod_lt_of_pos _ (by omega)⟩
              have hput : ∀ (x : Int) (X : World), 0 ≤ x → x < (n1 : Int) → Md w n1 t1 L2 L2 X → Calls Try.prog 25 #[.pointer (some ⟨w.heap.size + 3, 0, none⟩), .int .i64 x] X fun e u => e = .returned (.int .i64 (I.putE (ltK id) L2 x (rk id L2 x))) ∧ u.cell? ⟨w.heap.size + 3 + 1 + 1, 0, none⟩ = some (.pointer (some ⟨w.heap.size + 4, 0, none⟩)) ∧ Hid (Md w n1 t1 (I.putL (ltK id) L2 x (rk id L2 x)) L2 u) := by
                intro x X hx0 hx1 hX
                refine (hX.put (by omega) x ⟨hx0, hx1⟩).mono ?_
                rintro e u ⟨he, hu⟩
                exact ⟨he, cell_at hu.dbx 0, hu⟩
              have hrp : ∀ (x : Int) (X : World), Hid (Md w n1 t1 (I.putL (ltK id) L2 x (rk id L2 x)) L2 X) → Calls Try.prog 16 #[.pointer (some ⟨w.heap.size + 4, 0, none⟩), .agg #[.int .i64 x, .int .i64 0]] X fun e u => e = .returned (.int .i64 (I.putE (ltK id) L2 x (rk id L2 x))) ∧ u.cell? ⟨w.heap.size + 3 + 1 + 1, 0, none⟩ = some (.pointer (some ⟨w.heap.size + 4, 0, none⟩)) ∧ Hid (Md w n1 t1 (I.putL (ltK id) L2 x (rk id L2 x)) (I.putL (ltK id) L2 x (rk id L2 x)) u) := by
                intro x X hX
                refine (hX.out.rput x HM2.out.rise).mono ?_
                rintro e u ⟨he, hu⟩
                exact ⟨he, cell_at hu.dbx 0, hu⟩
              have hrk : ∀ (x : Int) (L' : List Int) (X : World), 0 ≤ x → x < (n1 : Int) → Hid (Md w n1 t1 L' L' X) → Calls Try.prog 26 #[.pointer (some ⟨w.heap.size + 3, 0, none⟩), .int .i64 x] X fun e u => e = .returned (.int .i64 (rk id L' x : Int)) ∧ u.cell? ⟨w.heap.size + 3 + 1 + 1, 0, none⟩ = some (.pointer (some ⟨w.heap.size + 4, 0, none⟩)) ∧ Hid (Md w n1 t1 L' L' u) := by
                intro x L' X hx0 hx1 hX
                refine (hX.out.rank (by omega) x ⟨hx0, hx1⟩).mono ?_
                rintro e u ⟨he, hu⟩
                exact ⟨he, cell_at hu.dbx 0, hu⟩
              have hrr2 : ∀ (x : Int) (L' : List Int) (X : World), Hid (Md w n1 t1 L' L' X) → Calls Try.prog 27 #[.pointer (some ⟨w.heap.size + 4, 0, none⟩), .int .i64 x] X fun e u => e = .returned (.int .i64 (rk id L' x : Int)) ∧ u = X := fun x L' X hX => hX.out.rrank x
              have hd5 : ∀ m, (wr.drewN m).cell? ⟨w.heap.size + 3 + 1 + 1, 0, none⟩ = some (.pointer (some ⟨w.heap.size + 4, 0, none⟩)) := fun m => cell_at HM2.out.dbx 0
              have hd6 := hd5 0
              have hdn : ∀ m, Md w n1 t1 L2 L2 (wr.drewN m) := fun m => HM2.out.below (bel_drewN' (Below.refl _ _) m)
              by_cases hp0 : p = 0
              · have dp : ((p : Int) == 1) = false := by simp; omega
                clear hp0
                gi_wp2_with fail
                refine wpIn_wide.2 ?_
                go_quiet (fail)
                gi_wp2_with fail
                rw [hr.out]
                have c25 := hput r (wr.drewN nq).drew (by omega) (by omega) ((hdn nq).below (Below.refl _ _).drew)
                have dx := hd5 nq
                refine wpIn_wide.2 ?_
                go_region_held3 (fun W => W.cell? ⟨w.heap.size + 3 + 1 + 1, 0, none⟩ = some (.pointer (some ⟨w.heap.size + 4, 0, none⟩))) (go_keep)
                  (first
                    | (go_at_call 25; refine c25.mono ?_; rintro e u1 ⟨rfl, d1, q1⟩; clear c25)
                    | (go_at_call 16; refine (hrp r _ q1).mono ?_; rintro e u2 ⟨rfl, d2, q2⟩; clear q1)
                    | (go_at_call 26; refine (hrk r _ _ (by omega) (by omega) q2).mono ?_; rintro e u3 ⟨rfl, d3, q3⟩; clear q2)
                    | (go_at_call 27; refine (hrr2 r _ _ q3).mono ?_; rintro e u4 ⟨rfl, rfl⟩))
                gi_wp2
                go_roundw
                case rel => exact ⟨j + 1, _, by omega, by go_num, q3⟩
                case measure => simp [intOf]; omega
              · have dp : ((p : Int) == 1) = true := by simp; omega
                clear hp0
                gi_wp2_with fail
                refine wpIn_wide.2 ?_
                go_quiet (fail)
                gi_wp2_with fail
                rw [hr.out]
                have hwr : wrap64 ((n1 : Int) - 1 - r) = (n1 : Int) - 1 - r := by unfold wrap64; omega
                rw [hwr]
                clear hwr
                have c25 := hput ((n1 : Int) - 1 - r) (wr.drewN nq).drew (by omega) (by omega) ((hdn nq).below (Below.refl _ _).drew)
                have dx := hd5 nq
                refine wpIn_wide.2 ?_
                go_region_held3 (fun W => W.cell? ⟨w.heap.size + 3 + 1 + 1, 0, none⟩ = some (.pointer (some ⟨w.heap.size + 4, 0, none⟩))) (go_keep)
                  (first
                    | (go_at_call 25; refine c25.mono ?_; rintro e u1 ⟨rfl, d1, q1⟩; clear c25)
                    | (go_at_call 16; refine (hrp ((n1 : Int) - 1 - r) _ q1).mono ?_; rintro e u2 ⟨rfl, d2, q2⟩; clear q1)
                    | (go_at_call 26; refine (hrk ((n1 : Int) - 1 - r) _ _ (by omega) (by omega) q2).mono ?_; rintro e u3 ⟨rfl, d3, q3⟩; clear q2)
                    | (go_at_call 27; refine (hrr2 ((n1 : Int) - 1 - r) _ _ q3).mono ?_; rintro e u4 ⟨rfl, rfl⟩))
                gi_wp2
                go_roundw
                case rel => exact ⟨j + 1, _, by omega, by go_num, q3⟩
                case measure => simp [intOf]; omega
            · have hd1 : decide ((j : Int) < (nb : Int)) = false := by simp; omega
              have HR0 : Hid (Rs w n1 t1 c L2 0 t1 wr) := Rs.new hM2.out
              have hlt1 : t1.length = n1 := hM2.out.tab.len
              have Hlt1 : Hid (t1.length = n1) := hlt1
              clear hM2 hlt1
              gi_wp2_with fail
              gi_loopw [15] (fun iv wx => ∃ (i : Nat) (t2 : List Int), i ≤ n1 ∧ iv = .int .i64 (i : Int) ∧ Hid (Rs w n1 t1 c L2 i t2 wx)) (fun iv _ => n1 - (intOf iv).toNat)
              case atStart => exact ⟨0, t1, Nat.zero_le _, rfl, HR0⟩
              case round =>
                obtain ⟨i, t2, hi, rfl, hR⟩ := hrel
                clear HR0
                have y1 : wr.cell? ⟨w.heap.size + 1 + 1, 0, none⟩ = some (.slice (some ⟨w.heap.size + 1, 0, none⟩) n1 n1) := cell_at hR.out.tab.box 0
                have hi2 : (0 : Int) ≤ (i : Int) := by omega
                by_cases hil : i < n1
                · obtain ⟨v0, hv0⟩ : ∃ v0, t1[i]? = some v0 := ⟨_, List.getElem?_eq_getElem (by have := Hlt1.out; omega)⟩
                  have hcur : t2[i]? = some v0 := by have := hR.out.val i v0 hv0; rwa [if_neg (by omega)] at this
                  have y2 : wr.cell? ⟨w.heap.size + 1, i, none⟩ = some (.int .i64 v0) := hR.out.tab.at hcur
                  have y3 : wr.frozen? ⟨w.heap.size + 1, i, none⟩ = false := by simp [World.frozen?, hR.out.tab.row]
                  have hb0 := hBd.out i v0 hv0
                  have hbn : bnd p = 1073741824 ∨ bnd p = 549755813888 := by
                    rcases (by omega : p = 0 ∨ p = 1) with e | e
                    · subst e; exact .inl rfl
                    · subst e; exact .inr rfl
                  obtain ⟨tb1, tb2⟩ := turn_bound (p := p) (i := i) hplt (by omega) hc0 hc1 (bnd p) _ rfl (by omega) hb0
                  have hi1 : (i : Int) < (n1 : Int) := by omega
                  obtain ⟨mv, hmv⟩ : ∃ mv, v0 * (1 + c) = mv := ⟨_, rfl⟩
                  have hmv' : v0 * (1 + c) = mv := hmv
                  rw [hmv] at tb1
                  have w1 : IntKind.i64.wrap c = c := by simp [IntKind.wrap, IntKind.bits, IntKind.signed]; omega
                  have w2 : IntKind.i64.wrap (1 + c) = 1 + c := by simp [IntKind.wrap, IntKind.bits, IntKind.signed]; omega
                  have w3 : IntKind.i64.wrap mv = mv := by simp [IntKind.wrap, IntKind.bits, IntKind.signed]; omega
                  have w4 : IntKind.i64.wrap (mv + (i : Int)) = mv + (i : Int) := by simp [IntKind.wrap, IntKind.bits, IntKind.signed]; omega
                  have w5 : IntKind.i64.wrap (mv + (i : Int) - 1000) = mv + (i : Int) - 1000 := by simp [IntKind.wrap, IntKind.bits, IntKind.signed]; omega
                  have HST : Hid (Rs w n1 t1 c L2 (i + 1) (t2.set i (mv + (i : Int) - 1000)) (wr.setCell ⟨w.heap.size + 1, i, none⟩ (.int .i64 (mv + (i : Int) - 1000))).drew) := hR.out.step hil hv0 1 _ (by unfold turnV; rw [hmv])
                  clear hR hv0 hcur hb0 hbn tb1 tb2 hmv
                  gi_wp2_with fail
                  refine wpIn_wide.2 (wp_region_noPanic ?_)
                  go_region_with (fail)
                  all_goals
                    refine NoPanic.normal ?_
                    gi_wp2
                    go_roundw
                    case rel => exact ⟨i + 1, _, by omega, by go_num, HST⟩
                    case measure => simp [intOf]; omega
                · obtain rfl : i = n1 := by omega
                  have hd2 : decide ((i : Int) < (i : Int)) = false := by simp
                  obtain ⟨r1, r2⟩ := hR.out.done hc0
                  have HM3 : Hid (Md w i t2 L2 L2 wr) := r1
                  have HB3 : Hid (Bd (p + 1) t2) := fun x v hv => by
                    obtain ⟨u, hu, e⟩ := r2 x v hv
                    have hb0 := hBd.out x u hu
                    have hxl := (List.getElem?_eq_some_iff.1 hu).1
                    have hll := Hlt1.out
                    rcases (by omega : p = 0 ∨ p = 1) with e0 | e0
                    · subst e0
                      have := (turn_bound (p := 0) (i := x) hplt (by omega) hc0 hc1 (bnd 0) (bnd 1) rfl (by simp [bnd]) hb0).2
                      rw [e]
                      exact this
                    · subst e0
                      have := (turn_bound (p := 1) (i := x) hplt (by omega) hc0 hc1 (bnd 1) (bnd 2) rfl (by simp [bnd]) hb0).2
                      rw [e]
                      exact this
                  clear hR r1 r2
                  gi_wp2
                  go_roundw
                  case rel => exact ⟨p + 1, t2, L2, by omega, by go_num, HM3, HB3⟩
                  case measure => simp [intOf]; omega
        · obtain rfl : p = 2 := by omega
          obtain ⟨a1, cap1, ed1, ra, rc, l1, l2⟩ := hMd.out.pair
          have hs6 : w.heap.size + 6 ≤ wr.heap.size := (Array.getElem?_eq_some_iff.1 hMd.out.dbx).1
          obtain ⟨Z0, hZ0⟩ : ∃ Z0, wr.alloc (.cells #[.int .i64 0] 3) = Z0 := ⟨_, rfl⟩
          have hzs : Z0.heap.size = wr.heap.size + 1 := by rw [← hZ0]; simp
          have hall := I.pall_any Z0 (some ⟨w.heap.size + 3, 0, none⟩)
          obtain ⟨Z, hZ⟩ : ∃ Z, Z0.alloc (.cells #[.pointer (some ⟨w.heap.size + 3, 0, none⟩)] 38) = Z := ⟨_, rfl⟩
          have hZs : Z.heap.size = wr.heap.size + 2 := by rw [← hZ]; simp; omega
          have hbZ : Below wr.heap.size wr Z := by rw [← hZ, ← hZ0]; exact ((Below.refl _ wr).alloc (Nat.le_refl _) _).alloc (by simp) _
          have e7 : Hid (Z.heap[wr.heap.size + 1]? = some (.cells #[.pointer (some ⟨w.heap.size + 3, 0, none⟩)] 38 (0, 0))) := by show _ = _; rw [← hZ, ← hzs]; exact heap_alloc_new Z0 _
          have e6 : Z.heap[wr.heap.size]? = some (.cells #[.int .i64 0] 3 (0, 0)) := by rw [← hZ, Below.heap_alloc _ _ _ (by omega), ← hZ0]; exact heap_alloc_new wr _
          have HMF : Hid (Mf w L a1 cap1 ed1 ra rc wr.heap.size [] Z) := ⟨(hbZ.block _ (by omega)).trans hMd.out.res, (hbZ.block _ (by omega)).trans hMd.out.dbx, e6, ⟨false, l1.below hbZ⟩, l2.below hbZ, hMd.out.bel.trans (hbZ.mono hMd.out.bel.size)⟩
          have HL7 : Hid (I.LAt Z (w.heap.size + 6) (w.heap.size + 3) 24 #[.pointer (some ⟨w.heap.size + 2, 0, none⟩)] L a1 cap1 false ed1) := l1.below hbZ
          have HLr : Hid (∀ k, (Value.slice a1 L.length cap1).ownBlock = some k → k < wr.heap.size) := fun k hk => (own_block_lt l1.row k hk).2
          have HRr : Hid (∀ k, (Value.slice ra (its L).length rc).ownBlock = some k → k < wr.heap.size) := fun k hk => (own_block_lt l2.row k hk).2
          have hl8 : L.length ≤ 8192 := l1.len
          rw [hZ] at hall
          have HZ0 : Hid (wr.alloc (.cells #[.int .i64 0] 3) = Z0) := hZ0
          clear hMd hBd l1 l2 e6 hbZ hZ hZ0
          gi_wp2_with fail
          rw [HZ0.out]
          refine ⟨trivial, rfl, (callsIn_wide.2 hall).mono ?_⟩
          rintro e Z2 ⟨rfl, rfl⟩
          clear hall HZ0
          rw [hzs]
          gi_wp2_with fail
          have eg : ∀ args w, (callFunc 67 args).run Try.prog w = .ok (.enter 67 args) w := enters_of Try.func67 (by kernel_rfl) rfl
          refine range_own (gf := 67) (lb := #[.pointer (some ⟨wr.heap.size + 1, 0, none⟩)]) rfl eg (encs := I.enc2) (fun _ => rfl) (xs := I.enum L) (K := fun k => (Value.slice a1 L.length cap1).ownBlock = some k) (M := fun k => k = w.heap.size + 3)
            (fun k hk => by have := HLr.out k hk; omega) (fun k hk => by omega)
            (fun X hX hXs => I.all_goes _ _ _ (wr.heap.size + 1) X (w.heap.size + 6) (w.heap.size + 3) 24 _ L a1 cap1 false ed1 ((hX.cell (p := ⟨wr.heap.size + 1, 0, none⟩) (by show wr.heap.size + 1 < _; omega)).trans (cell_at e7.out 0)) (HL7.out.below hX) rfl (fun _ h => h))
            (fun pre X => Mf w L a1 cap1 ed1 ra rc wr.heap.size pre X)
            (fun c pre X => False)
            (fun s X Y hI st => hI.stab (by omega) (fun _ e => e) (by omega) st)
            (fun c s X Y hI st => hI)
            HMF.out
            (fun y a' X => a' = { tmps := #[.slice a k ca, .slice b nb cb, .int .u8 c, undef, undef, undef, .pointer (some ⟨w.heap.size, 0, none⟩), .pointer (some ⟨w.heap.size + 1 + 1, 0, none⟩), .int .i64 (k : Int), .pointer (some ⟨w.heap.size + 3, 0, none⟩), .int .i64 0, .pointer (some ⟨w.heap.size + 3 + 1 + 1, 0, none⟩), .int .i64 2, u13, u14, u15, .pointer (some ⟨wr.heap.size, 0, none⟩), undef, .int .i64 y.2, .slice a k ca, .int .i64 (k : Int), .int .i64 ((k : Int) + 1), .slice (some ⟨w.heap.size + 1, 0, none⟩) n1 n1, .int .i64 (k : Int), .slice a k ca, .int .i64 (k : Int), .bool false, u27, u28, u29, u30, u31, u32, u33, u34, u35, u36, u37, u38, u39, u40, u41, u42, u43, .tuple #[.pointer (some ⟨w.heap.size + 3, 0, none⟩), .int .i64 0], .func (.func 24) #[] #[.pointer (some ⟨w.heap.size + 1 + 1, 0, none⟩)], .tuple #[.pointer (some ⟨w.heap.size + 3, 0, none⟩), .int .i64 0], .pointer (some ⟨w.heap.size + 3, 0, none⟩), .int .i64 0, .agg #[.slice none 0 0], .pointer (some ⟨w.heap.size + 3 + 1, 0, none⟩), .pointer (some ⟨w.heap.size + 3, 0, none⟩), .bool false, .bool false, .int .i64 0, .bool false, .bool false, .int .i64 2, .bool false, u59, u60, u61, u62, u63, u64, u65, u66, u67, u68, u69, u70, u71, u72, u73, u74, u75, u76, u77, u78, u79, u80, u81, u82, u83, u84, u85, u86, u87, u88, u89, u90, u91, u92, u93, u94, u95, u96, u97, u98, u99, u100, u101, u102, u103, u104, u105, u106, u107, u108, u109, u110, u111, u112, u113, u114, u115, u116, u117, u118, .pointer (some ⟨w.heap.size + 3, 0, none⟩), .func (.func 67) #[] #[.pointer (some ⟨wr.heap.size + 1, 0, none⟩)], .int .i64 (y.1 : Int), .int .i64 y.2, undef, undef, undef, undef, undef, undef, undef, undef, undef, undef, undef, undef, undef, undef, undef, undef, undef, undef, undef, undef, undef, undef, undef, undef, undef, undef, undef, undef, undef, undef, undef, undef, undef, undef], defers := [] })
            (fun y a' X Y hX st => hX)
            ?assign ?body ?done ?stop
          case assign =>
            rintro l2 pre y X Kc i1 hK
            have HI : Hid (Mf w L a1 cap1 ed1 ra rc wr.heap.size pre X) := i1
            clear i1
            unfold I.enc2
            gi_wp2
            exact hK _ _ (Kp.refl _ _ _ _) HI.out rfl
          case body =>
            rintro l2 pre ⟨i, y⟩ a' X hpre i1 rfl
            obtain ⟨hi, hy⟩ := I.enum_pre hpre
            dsimp only at hi hy ⊢
            subst hi
            have hit : (its L)[pre.length]? = some (y, 0) := by rw [its_at, hy]; rfl
            obtain ⟨g, rfl, hg1, hg2, hg3⟩ := T.items_of rfl i1.ref.row _ _ hit
            have hlt := (List.getElem?_eq_some_iff.1 hy).1
            have k2 : X.cell? ⟨w.heap.size + 3 + 1 + 1, 0, none⟩ = some (.pointer (some ⟨w.heap.size + 4, 0, none⟩)) := cell_at i1.dbx 0
            have k3 : X.cell? ⟨wr.heap.size, 0, none⟩ = some (.int .i64 (pre.length : Int)) := cell_at i1.cnt 0
            have k4 : X.cell? ⟨w.heap.size + 4, 0, none⟩ = some (.slice (some ⟨g, 0, none⟩) L.length rc) := by
              have := i1.ref.head.cell 0
              rw [its_length] at this
              exact this
            have k5 : X.frozen? ⟨wr.heap.size, 0, none⟩ = false := by simp [World.frozen?, i1.cnt]
            have hk1 : (pre.length : Int) < (L.length : Int) := by omega
            have hk2 : (0 : Int) ≤ (pre.length : Int) := by omega
            have hk3 : (L.length : Int) ≤ 8192 := by omega
            have HI : Hid (Mf w L a1 cap1 ed1 (some ⟨g, 0, none⟩) rc wr.heap.size pre X) := i1
            generalize hnn : pre.length = np at *
            have hd1 : decide (L.length ≤ np) = false := by simp; omega
            have Hn : Hid (pre.length = np) := hnn
            clear hnn i1 hpre hy hit hg3
            gi_wp2_with fail
            refine region_round (by kernel_rfl) (by kernel_rfl) (by kernel_rfl) ?_
            repeat go_big_quiet_step (fail)
            refine wpQuiet_nil ?_
            intro _ hw'
            obtain ⟨nq, hw''⟩ := hw'
            subst hw''
            gi_wp2
            obtain ⟨r1, r2⟩ := HI.out.step (by omega) (fun k hk => by have := HLr.out k hk; omega) (fun k hk => by have := HRr.out k hk; omega) (np, y) nq (.int .i64 ((np : Int) + 1)) (v_int (by have := Hn.out; simp; omega))
            exact ⟨Kp.of_turn r2 (fun k hk hA => by have hA' : k = wr.heap.size := hA; exact ⟨fun hx => by have := HLr.out k hx; omega, .inl (by omega), .inl (by omega)⟩), r1⟩
          case done =>
            rintro X i1 hD
            obtain ⟨lent2, hl2⟩ := i1.list
            have hen : (I.enum L).length = L.length := I.enum_length L
            have k2 : X.cell? ⟨w.heap.size + 3 + 1 + 1, 0, none⟩ = some (.pointer (some ⟨w.heap.size + 4, 0, none⟩)) := cell_at i1.dbx 0
            have k3 : X.cell? ⟨wr.heap.size, 0, none⟩ = some (.int .i64 (L.length : Int)) := by rw [← hen]; exact cell_at i1.cnt 0
            have k4 : X.cell? ⟨w.heap.size + 4, 0, none⟩ = some (.slice ra L.length rc) := by
              have := i1.ref.head.cell 0
              rw [its_length] at this
              exact this
            have k5 : X.cell? ⟨w.heap.size, 0, none⟩ = some (.bool false) := cell_at i1.res 0
            have k6 : X.frozen? ⟨w.heap.size, 0, none⟩ = false := by simp [World.frozen?, i1.res]
            have hlen := I.len_any X.drew _ _ 24 _ L a1 cap1 lent2 ed1 (hl2.below (Below.refl _ _).drew)
            have HI : Hid (Mf w L a1 cap1 ed1 ra rc wr.heap.size (I.enum L) X) := i1
            have HX : Hid (X.heap[Z2.heap.size]? = some (.deferred (some []))) := hD
            have hk3 : (L.length : Int) ≤ 8192 := by omega
            have hkp : (X.setCell ⟨w.heap.size, 0, none⟩ (.bool true)).drew.cell? ⟨w.heap.size + 3 + 1 + 1, 0, none⟩ = some (.pointer (some ⟨w.heap.size + 4, 0, none⟩)) := cell_at ((Below.heap_setCell _ _ _ _ (by show w.heap.size + 5 ≠ w.heap.size; omega)).trans i1.dbx) 0
            have m1 : ¬ (w.heap.size = wr.heap.size) := by omega
            have m2 : ¬ (wr.heap.size = w.heap.size) := by omega
            clear i1 hD hl2 hen
            gi_wp2_with fail
            refine wpIn_wide.2 ?_
            go_region_held3 (fun W => W.cell? ⟨w.heap.size + 3 + 1 + 1, 0, none⟩ = some (.pointer (some ⟨w.heap.size + 4, 0, none⟩)) ∧ W.cell? ⟨wr.heap.size, 0, none⟩ = some (.int .i64 (L.length : Int)) ∧ W.cell? ⟨w.heap.size + 4, 0, none⟩ = some (.slice ra L.length rc)) (go_keep)
              (first | (go_at_call 29; refine hlen.mono ?_; rintro e w2 ⟨rfl, rfl⟩))
            obtain ⟨Y, hY⟩ : ∃ Y, (X.setCell ⟨w.heap.size, 0, none⟩ (.bool true)).drew = Y := ⟨_, rfl⟩
            have far : ∀ k, k ≠ w.heap.size → Y.heap[k]? = X.heap[k]? := fun k hk => by rw [← hY]; exact Below.heap_setCell _ _ _ _ hk
            have hz : Y.heap[w.heap.size]? = some (.cells #[.bool true] 4 (0, 0)) := by rw [← hY]; simp [World.drew, World.setCell, Array.getElem?_modify, HI.out.res]
            have hD2 : Y.heap[wr.heap.size + 2]? = some (.deferred (some [])) := by rw [← hZs]; exact (far _ (by omega)).trans HX.out
            have c8 : (Y.putObj (wr.heap.size + 2) (.deferred none)).cell? ⟨w.heap.size, 0, none⟩ = some (.bool true) := cell_at ((World.putObj_heap_other (by omega)).trans hz) 0
            have HF : Hid (Below w.heap.size w (Y.putObj (wr.heap.size + 2) (.deferred none))) := by
              have hb := HI.out.bel
              have h5 : Y.os = X.os ∧ Y.tape = X.tape ∧ Y.output = X.output ∧ Y.heap.size = X.heap.size := by rw [← hY]; exact ⟨rfl, rfl, rfl, by simp [World.setCell]⟩
              exact ⟨h5.1.trans hb.os, h5.2.1.trans hb.tape, h5.2.2.1.trans hb.output, by simp [h5.2.2.2]; exact hb.size, fun k hk => (World.putObj_heap_other (by omega)).trans ((far k (by omega)).trans (hb.block k hk))⟩
            have HD2 : Hid (Y.heap[wr.heap.size + 2]? = some (.deferred (some []))) := hD2
            rw [hY]
            clear hY far hz hD2
            gi_wp2
            refine ⟨by simp, .inl ⟨_, _, rfl, run_takeDeferred HD2.out, ?_⟩⟩
            have hres : Try.f6.results = #[.cell 6 4] := rfl
            refine ⟨.bool true, ?_, rfl, HF.out⟩
            simp only [results, hres]
            simp [go_sem, c8]
          case stop =>
            rintro c pre X hpre i1
            exact i1.elim

end Go.Proofs.Ytiggpbjgnododaa.L
