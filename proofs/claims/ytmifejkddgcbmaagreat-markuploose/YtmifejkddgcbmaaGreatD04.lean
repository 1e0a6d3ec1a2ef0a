/- What it is not: remarks, quotes of the other sort, blanks, attributes in another order, ends of elements change nothing. -/
import Derived.Test.YtmifejkddgcbmaaGreatD03
import Derived.Test.YtmifejkddgcbmaaGreatC05
namespace Go.Proofs.YtmifejkddgcbmaaGreat
open Go.RowKit
set_option linter.unusedVariables false
set_option linter.unusedSimpArgs false

/-- What Normal tells, with why. -/
def NmPost2 (n : Nat) (L : List (T n)) (w : World) (e : Ending) (w' : World) : Prop := ∃ (a : Option Addr) (N : List (T 64)) (cap : Nat) (g : Int), e = .returned (.tuple #[.slice a N.length cap, .int .i64 g]) ∧ Tc.KidsAt w' w.heap.size w'.heap.size 64 a N ∧ N.length ≤ 4096 ∧ (g = 0 → Canon 64 N ∧ (N.map (cnt 64)).sum ≤ 4096) ∧ Below w.heap.size w w'

set_option maxRecDepth 100000 in
set_option maxHeartbeats 4000000 in
theorem Normal_two (n : Nat) (w : World) (lo : Nat) (ka : Option Addr) (L : List (T n)) (cap : Nat) (h : Tc.KidsAt w lo w.heap.size n ka L) (hl : L.length ≤ maxK) : Calls Tryz.prog 15 #[.slice ka L.length cap] w (NmPost2 n L w) := by
  by_cases h0 : forE n L = 0
  · have hcf : chkF n L = 0 := by
      unfold forE at h0
      split at h0
      · assumption
      · exact h0
    have hsm : (L.map (cnt n)).sum ≤ 4096 := by
      unfold forE at h0
      rw [if_pos hcf] at h0
      by_cases h : 4096 < (L.map (cnt n)).sum
      · rw [if_pos h] at h0; cases h0
      · omega
    refine (Normal_any n w lo ka L cap h hl).mono ?_
    rintro e w' ⟨a, N, cap', g, rfl, hg1, hk, hn, hg2, hb⟩
    refine ⟨a, N, cap', g, rfl, hk, hn, fun hg => ?_, hb⟩
    obtain ⟨-, h2, h3, -⟩ := nrm_spec n 64 L N (fun k hk => chk_okD n k 1 0 (chkF_mem L hcf k hk)) (hg2 hg)
    exact ⟨h2, by omega⟩
  · have hck := check_f n w lo ka L cap h hl
    have hb : (forE n L != 0) = true := by simpa using h0
    have H0 : Hid (forE n L ≠ 0) := h0
    clear h h0 hl
    generalize forE n L = z at *
    go_enter Tryz.func15, Tryz.ntmps15
    go_wp2_with fail
    refine hck.mono ?_
    rintro e w1 ⟨rfl, hb1⟩
    go_wp2
    go_ret2
    exact ⟨none, [], 0, z, rfl, fun i k hk => by simp at hk, by simp, fun h => absurd h H0.out, hb1⟩

theorem HowAt.up {w w' : World} {B : Nat} {ha : Option Addr} {H : Bs} (h : HowAt w w.heap.size ha H) (hb : Below w.heap.size w w') (hB : w.heap.size ≤ B) : HowAt w' B ha H := fun i b hi => by
  obtain ⟨x, o, h1, h2, h3⟩ := h i b hi
  exact ⟨x, o, h1, by omega, (hb.cell (p := ⟨x, _, none⟩) h2).trans h3⟩

set_option maxRecDepth 100000 in
set_option maxHeartbeats 8000000 in
theorem loose_walk (n : Nat) (w : World) (ka : Option Addr) (L : List (T n)) (cap : Nat) (ha : Option Addr) (H : Bs) (hcap : Nat) (h0 : 0 < w.heap.size) (m : Int) (hm : w.cell? ⟨0, 0, none⟩ = some (.int .i64 m)) (hk : Tc.KidsAt w 0 w.heap.size n ka L) (hl : L.length ≤ maxK) (hha : HowAt w w.heap.size ha H) (hH : H.length ≤ 9000000000000000) :
    Calls Tryz.prog 6 #[.slice ka L.length cap, .slice ha H.length hcap] w fun e w' => e = .returned (.bool true) ∧ Below w.heap.size w w' := by
  have hlv := lives_any w h0 m hm
  have HM : Hid (∀ W, Below w.heap.size w W → W.cell? ⟨0, 0, none⟩ = some (.int .i64 m)) := fun W hW => (hW.cell (p := ⟨0, 0, none⟩) h0).trans hm
  have HL : Hid (L.length ≤ maxK) := hl
  have HHA : Hid (HowAt w w.heap.size ha H) := hha
  have HCP : Hid (∀ W, Below w.heap.size w W → Calls Tryz.prog 14 #[.slice ka L.length cap] W fun e w' => ∃ a' cap', e = .returned (.slice a' L.length cap') ∧ Tc.KidsAt w' W.heap.size w'.heap.size n a' L ∧ L.length ≤ cap' ∧ Below W.heap.size W w') := fun W hW => copied_any n W 0 ka L cap (hk.after hW) hl
  clear hm hk hl hha
  go_enter Tryz.func6, Tryz.ntmps6
  go_wp2_with fail
  refine hlv.mono ?_
  rintro e w1 ⟨rfl, hb1⟩
  have hc1 := HCP.out w1 hb1
  have HB1 : Hid (Below w.heap.size w w1) := hb1
  have hs1 := hb1.size
  clear hlv hb1
  go_wp2_with fail
  refine hc1.mono ?_
  rintro e w2 ⟨a2, cap2, rfl, hk2, -, hb2⟩
  have HB2 : Hid (Below w.heap.size w w2) := HB1.out.trans (hb2.mono hs1)
  have hs2 := HB2.out.size
  have hnm := Normal_two n w2 w1.heap.size a2 L cap2 hk2 HL.out
  clear hc1 hk2 hb2
  go_wp2_with fail
  refine hnm.mono ?_
  rintro e w3 ⟨a3, N, cap3, g, rfl, hk3, hn3, hg3, hb3⟩
  have HB3 : Hid (Below w.heap.size w w3) := HB2.out.trans (hb3.mono hs2)
  have hs3 := HB3.out.size
  have HK3 : Hid (Tc.KidsAt w3 w2.heap.size w3.heap.size 64 a3 N) := hk3
  have HN3 : Hid (N.length ≤ maxK) := by show _ ≤ _; unfold maxK; omega
  have hpr := print_any 64 w3 w2.heap.size a3 N cap3 hk3 HN3.out
  generalize (⟨(printP 64 N).1.toArray⟩ : ByteArray) = PS at *
  generalize (printP 64 N).2 = pe at *
  clear hnm hk3 hb3
  go_wp2_with fail
  refine hpr.mono ?_
  rintro e w4 ⟨rfl, hb4⟩
  have HB4 : Hid (Below w.heap.size w w4) := HB3.out.trans (hb4.mono hs3)
  have hs4 := HB4.out.size
  have HK4 : Hid (Tc.KidsAt w4 w2.heap.size w4.heap.size 64 a3 N) := HK3.out.after hb4
  clear hpr hb4
  by_cases hg0 : g = 0
  · by_cases hp0 : pe = 0
    · obtain ⟨hcan, hsum⟩ := hg3 hg0
      subst hg0
      subst hp0
      have HCAN : Hid (Canon 64 N) := hcan
      have HSUM : Hid ((N.map (cnt 64)).sum ≤ 4096) := hsum
      have hlo := loose_any 64 w4 w4.heap.size none 0 [] w2.heap.size a3 N cap3 ha H hcap 0 64 ⟨rfl, .inl ⟨rfl, rfl⟩⟩ (Nat.le_refl _) HK4.out (fun t ht => (hcan.1 t ht).2) (HHA.out.up HB4.out hs4) hH (by omega) (by simp) (by omega)
      clear hg3 hcan hsum
      go_wp2_with fail
      refine hlo.mono ?_
      rintro e w5 ⟨va5, vc5, b5, k5, rfl, hs5, hk5, hlr, hl5⟩
      have HB45 : Hid (Below w4.heap.size w4 w5) := hs5.low
      have HB5 : Hid (Below w.heap.size w w5) := HB4.out.trans (hs5.low.mono hs4)
      have hcv := conv_own hs5.own
      have hs5' := HB5.out.size
      have HLR : Hid (LoR (LF (LT 64) N) [] b5) := hlr
      clear hlo hs5 hlr hk5
      by_cases hlong : 262144 < b5.length
      · have t1 : (262144 : Int) < ((b5.length : Nat) : Int) := by omega
        clear hcv
        go_wp2
        go_ret
        exact ⟨rfl, HB5.out⟩
      · have t1 : ¬ (262144 : Int) < ((b5.length : Nat) : Int) := by omega
        obtain ⟨S, hS⟩ : ∃ S : ByteArray, S = ⟨b5.toArray⟩ := ⟨_, rfl⟩
        rw [← hS] at hcv
        have hpp : parseP S.data.toList = .inl N := by
          rw [hS]
          show parseP b5 = _
          rcases HLR.out with ⟨y, hy, he⟩ | h
          · rw [List.nil_append] at he
            subst he
            exact parse_loose hy HCAN.out HSUM.out (by omega)
          · exact absurd h hlong
        have hp5 := parse_any w5 S (by omega) m (HM.out w5 HB5.out)
        rw [hpp] at hp5
        have HCV : Hid ((convert 41 9 (.slice va5 b5.length vc5)).run Tryz.prog w5 = .ok (.string S) w5) := hcv
        clear hS hpp hlong
        go_wp2_with fail
        refine hp5.mono ?_
        intro e w6 hp6
        obtain ⟨a6, cap6, rfl, hk6, hl6, hb6⟩ := ppost_kids hp6
        have HB46 : Hid (Below w4.heap.size w4 w6) := HB45.out.trans (hb6.mono (by have := HB45.out.size; omega))
        have HB6 : Hid (Below w.heap.size w w6) := HB5.out.trans (hb6.mono hs5')
        have hs6 := HB6.out.size
        have hsame := Same_any w6 0 w2.heap.size a6 a3 N cap6 cap3 hk6 (HK4.out.after HB46.out) HN3.out
        clear hp5 hp6 hk6 hl6 hb6 hcv HCV
        go_wp2_with fail
        refine hsame.mono ?_
        rintro e w7 ⟨rfl, hb7⟩
        have HB7 : Hid (Below w.heap.size w w7) := HB6.out.trans (hb7.mono hs6)
        clear hsame hb7
        go_wp2
        go_ret
        exact ⟨rfl, HB7.out⟩
    · have p1 : (pe != 0) = true := by simpa using hp0
      subst hg0
      clear hp0 hg3
      go_wp2
      go_ret
      exact ⟨rfl, HB4.out⟩
  · have g1 : (g != 0) = true := by simpa using hg0
    clear hg0 hg3
    go_wp2
    go_ret
    exact ⟨rfl, HB4.out⟩

end Go.Proofs.YtmifejkddgcbmaaGreat

/- Bytes that are read as data lie in memory as bytes. -/
namespace Go.Proofs.YtmifejkddgcbmaaGreat
open Go.RowKit Go.Deep
set_option linter.unusedVariables false
set_option linter.unusedSimpArgs false

theorem cellsB : Tryz.prog.cellsOf 5 = 1 := by kernel_rfl
theorem bytesB : Tryz.prog.bytesOf 5 = 1 := by kernel_rfl

theorem wf_byte {n : Int} (h : (Lit.int .u8 n).wf = true) : 0 ≤ n ∧ n < 256 := by
  simp [Lit.wf, IntKind.min, IntKind.max, IntKind.signed, IntKind.bits] at h
  omega

set_option maxRecDepth 100000 in
theorem how_of {H : Type} {enc : TypeId × Value → H} {W : World} {held : Bool} {fuel : Nat} {ha : Option Addr} {hl hc : Nat} {x : DataW H × List MemPlace} (h : DataW.trod enc Tryz.prog W 0 (fun _ => true) held fuel 41 [.slice ha hl hc] = some x) (hw : Wt 41 x.1) :
    ∃ B : Bs, B.length = hl ∧ hl ≤ 9000000000000000 ∧ HowAt W W.heap.size ha B := by
  obtain ⟨h1, h2, n, hn, hcell⟩ := slice_cells Tryz.underlying41 cellsB (by decide) h hw
  rw [bytesB] at h2
  obtain ⟨B, rfl, hB⟩ := list_of hl (fun i (b : UInt8) => ∃ hb ho, ha = some ⟨hb, ho, none⟩ ∧ hb < W.heap.size ∧ W.cell? ⟨hb, ho + i, none⟩ = some (.int .u8 (b.toNat : Int))) (fun i hi => by
    obtain ⟨b, o, cs, y, e1, e2, e3, e4, e5, -⟩ := hcell i hi
    obtain ⟨v, rfl, -, hwf⟩ := DataW.trod_int Tryz.underlying5 e5
    obtain ⟨w1, w2⟩ := wf_byte hwf
    refine ⟨UInt8.ofNat v.toNat, b, o, e1, e2, ?_⟩
    have h4 := e4 0 (by decide)
    have hv : ((UInt8.ofNat v.toNat).toNat : Int) = v := by
      rw [UInt8.toNat_ofNat']
      omega
    rw [hv]
    simpa using h4)
  exact ⟨B, rfl, by unfold reachBytes at h2; omega, hB⟩

end Go.Proofs.YtmifejkddgcbmaaGreat
