/- loose: a forest written with remarks, other quotes, blanks, attributes turned about. -/
import Derived.Test.YtmifejkddgcbmaaGreatD02
import Derived.Deep.DeepCutAuto
namespace Go.Proofs.YtmifejkddgcbmaaGreat
open Go.RowKit
set_option linter.unusedVariables false
set_option linter.unusedSimpArgs false

/-- The choices, as data. -/
def HowAt (w : World) (B : Nat) (ha : Option Addr) (H : Bs) : Prop := ∀ i b, H[i]? = some b → ∃ hb ho, ha = some ⟨hb, ho, none⟩ ∧ hb < B ∧ w.cell? ⟨hb, ho + i, none⟩ = some (.int .u8 (b.toNat : Int))
theorem HowAt.below {w w' : World} {B : Nat} {ha : Option Addr} {H : Bs} (h : HowAt w B ha H) (hb : Below B w w') : HowAt w' B ha H := fun i b hi => by
  obtain ⟨x, o, h1, h2, h3⟩ := h i b hi
  exact ⟨x, o, h1, h2, (hb.cell (p := ⟨x, _, none⟩) h2).trans h3⟩

/-- What is written behind bs: as it should be, or so much that it is too long. -/
def LoR (R : Bs → Prop) (bs bs' : Bs) : Prop := (∃ y, R y ∧ bs' = bs ++ y) ∨ 262144 < bs'.length

def LoAll (n : Nat) : Prop := ∀ (w : World) (B : Nat) (va : Option Addr) (vcap : Nat) (bs : Bs) (lo : Nat) (ka : Option Addr) (L : List (T n)) (cap : Nat) (ha : Option Addr) (H : Bs) (hcap k r : Nat),
  w.ownsRow B 5 1 (.slice va bs.length vcap) bs.length (Lib.byteCells bs) → B ≤ w.heap.size → Tc.KidsAt w lo B n ka L → (∀ t ∈ L, okD n r t) → HowAt w B ha H → H.length ≤ 9000000000000000 → k + (L.map (cnt n)).sum ≤ 9000 → bs.length ≤ 4000000 + 100 * r → r ≤ 65 →
  Calls Tryz.prog 20 #[.slice va bs.length vcap, .slice ka L.length cap, .slice ha H.length hcap, .int .i64 (k : Int)] w fun e w' => ∃ va' vcap' bs' k', e = .returned (.tuple #[.slice va' bs'.length vcap', .int .i64 ((k' : Nat) : Int)]) ∧ BSt B w w' (Value.slice va bs.length vcap).ownBlock bs' va' vcap' ∧ k' ≤ k + (L.map (cnt n)).sum ∧ LoR (LF (LT n) L) bs bs' ∧ bs'.length ≤ 4000000 + 100 * r

theorem lf_snoc {n : Nat} {R : T n → Bs → Prop} : ∀ {A : List (T n)} {y : Bs}, LF R A y → ∀ {t : T n} {yt : Bs} (b0 : List Bool), R t yt → LF R (A ++ [t]) (y ++ (rems b0 ++ yt))
  | [], y, h, t, yt, b0, ht => ⟨b0, yt, [], ht, rfl, by have : y = [] := h; subst this; simp⟩
  | a :: A, y, ⟨b1, y1, z, h1, h2, e⟩, t, yt, b0, ht => ⟨b1, y1, z ++ (rems b0 ++ yt), h1, lf_snoc h2 b0 ht, by rw [e]; simp⟩

theorem las_snoc : ∀ {A : List Att} {y : Bs}, LAs A y → ∀ {p : Att} {q : UInt8}, qOk q p → LAs (A ++ [p]) (y ++ prL q p)
  | [], y, h, p, q, hq => ⟨q, [], hq, rfl, by have : y = [] := h; subst this; simp⟩
  | a :: A, y, ⟨q1, z, h1, h2, e⟩, p, q, hq => ⟨q1, z ++ prL q p, h1, las_snoc h2 hq, by rw [e]; simp⟩
theorem eans_lenL {q : Bool} {x : Bs} (h : (tans x).2 = 0) : (eans q x).1.length ≤ 98304 := by
  unfold eans
  rw [if_pos h]
  have h1 := escL_length q x
  have h2 := (tans_ok h).1
  show (escL q x).length ≤ _
  omega

theorem q34 {p : Att} (hv : (tans p.2.data.toList).2 = 0) : qOk 34 p := by
  refine ⟨.inl rfl, fun x hx e => ?_⟩
  unfold eans at hx
  rw [if_pos hv] at hx
  have h := esc_none true p.2.data.toList x hx
  exact (h.2.2.2 rfl).1 (by rw [e]; rfl)
theorem q39 {p : Att} {S : ByteArray} (hS : S.data.toList = (eans true p.2.data.toList).1) (h : S.data.toList.any (· == 39) = false) : qOk 39 p := by
  refine ⟨.inr rfl, fun x hx e => ?_⟩
  rw [← hS] at hx
  rw [List.any_eq_false] at h
  exact h x hx (by simp [e])

set_option maxRecDepth 100000 in
set_option maxHeartbeats 32000000 in
theorem loose_n (n : Nat) (ih : ∀ m, n = m + 1 → LoAll m) : LoAll n := by
  intro w B va vcap bs lo ka L cap ha H hcap k r hown hB hk hok hha hH hks hbl hr
  have HB0 : Hid (BSt B w w (Value.slice va bs.length vcap).ownBlock bs va vcap) := BSt.refl hown hB
  have HK : Hid (Tc.KidsAt w lo B n ka L) := hk
  have HOK : Hid (∀ t ∈ L, okD n r t) := hok
  have HHA : Hid (HowAt w B ha H) := hha
  have HIH : Hid (∀ m, n = m + 1 → LoAll m) := ih
  have HKS : Hid (k + (L.map (cnt n)).sum ≤ 9000) := hks
  have hLl : L.length ≤ 9000 := by
    cases n with
    | zero =>
      cases L with
      | nil => simp
      | cons t _ => exact (t : Empty).elim
    | succ m => have := len_cnt L; omega
  have hsum0 : k ≤ 9000 := by omega
  generalize hq0 : (Value.slice va bs.length vcap).ownBlock = q0 at *
  clear hq0
  clear hown hk hok hha ih hks
  go_enter Tryz.func20, Tryz.ntmps20
  go_wp2
  go_loopw [0, 3, 10] (fun v0 v3 v10 wr => ∃ (i k1 : Nat) (b1 : Bs) (va1 : Option Addr) (vc1 : Nat), i ≤ L.length ∧ v10 = .int .i64 (i : Int) ∧ v3 = .int .i64 (k1 : Int) ∧ v0 = .slice va1 b1.length vc1 ∧ k1 ≤ 9000 ∧ Hid (k1 ≤ k + ((L.take i).map (cnt n)).sum) ∧ b1.length ≤ 4000000 + 100 * r ∧ Hid (BSt B w wr q0 b1 va1 vc1) ∧ Hid (LoR (LF (LT n) (L.take i)) bs b1)) (fun _ _ v10 _ => L.length - (intOf v10).toNat)
  case atStart => exact ⟨0, k, bs, va, vcap, Nat.zero_le _, rfl, rfl, rfl, hsum0, Nat.le_add_right _ _, hbl, HB0, .inl ⟨[], rfl, by simp⟩⟩
  case round =>
    obtain ⟨i, k1, b1, va1, vc1, hi, rfl, rfl, rfl, hk1, hk1s, hb1, hst, hlr⟩ := hrel
    clear HB0
    by_cases hlt : i < L.length
    · have t1 : (i : Int) < (L.length : Int) := by omega
      have t0 : (0 : Int) ≤ (i : Int) := by omega
      by_cases hfull : 262144 < b1.length
      · have HE : Hid (LoR (LF (LT n) L) bs b1) := .inr hfull
        have HS1 : Hid (k1 ≤ k + (L.map (cnt n)).sum) := Nat.le_trans hk1s.out (Nat.add_le_add_left (sum_le L i) k)
        have t2 : ¬ ((b1.length : Nat) : Int) ≤ 262144 := by omega
        clear hlr hk1s
        go_wp2
        go_ret2
        exact ⟨va1, vc1, b1, k1, rfl, hst.out, HS1.out, HE.out, hb1⟩
      · have t2 : ((b1.length : Nat) : Int) ≤ 262144 := by omega
        have HY : Hid (∃ y, LF (LT n) (L.take i) y ∧ b1 = bs ++ y) := by
          rcases hlr.out with h | h
          · exact h
          · exact absurd h hfull
        clear hlr hfull
        go_upto_if 35 with fail
        go_cut [11] (fun s11 wx => (∃ c : Nat, c < 256 ∧ s11 = .int .u8 (c : Int)) ∧ wx = wr)
        case first =>
          cases hH0 : H with
          | nil =>
            subst hH0
            go_wp2
            go_meet
            exact ⟨⟨0, by omega, rfl⟩, rfl⟩
          | cons h0 hr0 =>
            rw [← hH0]
            have hpos : 0 < H.length := by rw [hH0]; simp
            clear hH0
            have hp1 : (0 : Int) < (H.length : Int) := by omega
            have hmod : k1 % H.length < H.length := Nat.mod_lt _ hpos
            obtain ⟨c, hc⟩ : ∃ c, H[k1 % H.length]? = some c := ⟨_, List.getElem?_eq_getElem hmod⟩
            obtain ⟨x, o, rfl, hx1, hx2⟩ := (HHA.out.below hst.out.low) _ _ hc
            have hrm : (k1 : Int).tmod (H.length : Int) = ((k1 % H.length : Nat) : Int) := rfl
            have hm1 : ((k1 % H.length : Nat) : Int) < (H.length : Int) := by omega
            have hm0 : (0 : Int) ≤ ((k1 % H.length : Nat) : Int) := by omega
            clear hc
            go_wp2
            go_meet
            exact ⟨⟨c.toNat, c.toNat_lt, rfl⟩, rfl⟩
        case rest =>
          obtain ⟨⟨c, hc, rfl⟩, hwc⟩ := hcut
          have hwc' := hwc.symm
          clear hwc
          subst hwc'
          have HO1 : Hid (wr.ownsRow B 5 1 (.slice va1 b1.length vc1) b1.length (Lib.byteCells b1)) := hst.out.own
          have hBw : B ≤ wr.heap.size := Nat.le_trans hB hst.out.size
          have HS1 : Hid (BSt B wr wr (Value.slice va1 b1.length vc1).ownBlock b1 va1 vc1) := BSt.refl HO1.out hBw
          have hlen1 : b1.length ≤ 262144 := by omega
          generalize hq1 : (Value.slice va1 b1.length vc1).ownBlock = q1 at HS1
          have HQ1 : Hid ((Value.slice va1 b1.length vc1).ownBlock = q1) := hq1
          clear hq1
          have tokA : True := trivial
          go_upto_if 47 with fail
          go_cut [0] (fun s0 wx => ∃ (b2 : Bs) (va2 : Option Addr) (vc2 : Nat) (rs : List Bool), s0 = .slice va2 b2.length vc2 ∧ Hid (BSt B wr wx q1 b2 va2 vc2) ∧ Hid (b2 = b1 ++ rems rs) ∧ b2.length ≤ 262156)
          case first =>
            go_wp2_with (at_builtin; have _t := tokA; refine wpList_puts rfl _ _ rfl B va1 vc1 b1 rfl HO1.out ⟨#[60, 33, 45, 45, 32, 60, 32, 38, 32, 45, 45, 62]⟩ rfl (by simp [ByteArray.size]; omega) hBw ?_; intro b2 va2 vc2 w2 he2 hown2 hg2 hat2; have HS2 : Hid (BSt B wr w2 q1 b2 va2 vc2) := HS1.out.put hown2 hg2 (hat2.imp id (fun e => ⟨_, e, Nat.le_refl _⟩)); have HE2 : Hid (b2 = b1 ++ rems [true]) := he2.trans (by rfl); have hl2 : b2.length ≤ 262156 := (by rw [he2]; simp; omega); clear he2 hown2 hg2 hat2 tokA _t)
            all_goals go_meet
            · exact ⟨b2, va2, vc2, [true], rfl, HS2, HE2, hl2⟩
            · exact ⟨b1, va1, vc1, [], rfl, HS1, by show _ = _; simp [rems], by omega⟩
          case rest =>
            obtain ⟨b2, va2, vc2, rs2, rfl, hs2, he2, hl2⟩ := hcut
            have HO2 : Hid (wc.ownsRow B 5 1 (.slice va2 b2.length vc2) b2.length (Lib.byteCells b2)) := hs2.out.own
            have hBw2 : B ≤ wc.heap.size := Nat.le_trans hBw hs2.out.size
            have tokB : True := trivial
            go_upto_if 52 with fail
            go_cut [0] (fun s0 wx => ∃ (b3 : Bs) (va3 : Option Addr) (vc3 : Nat) (rs : List Bool), s0 = .slice va3 b3.length vc3 ∧ Hid (BSt B wr wx q1 b3 va3 vc3) ∧ Hid (b3 = b1 ++ rems rs) ∧ b3.length ≤ 262165)
            case first =>
              go_wp2_with (at_builtin; have _t := tokB; refine wpList_puts rfl _ _ rfl B va2 vc2 b2 rfl HO2.out ⟨#[60, 63, 97, 32, 62, 32, 98, 63, 62]⟩ rfl (by simp [ByteArray.size]; omega) hBw2 ?_; intro b3 va3 vc3 w3 he3 hown3 hg3 hat3; have HS3 : Hid (BSt B wr w3 q1 b3 va3 vc3) := hs2.out.put hown3 hg3 (hat3.imp id (fun e => ⟨_, e, Nat.le_refl _⟩)); have HE3 : Hid (b3 = b1 ++ rems (rs2 ++ [false])) := he3.trans (by rw [he2.out]; simp [rems, rem]); have hl3 : b3.length ≤ 262165 := (by rw [he3]; simp; omega); clear he3 hown3 hg3 hat3 tokB _t)
              all_goals go_meet
              · exact ⟨b3, va3, vc3, rs2 ++ [false], rfl, HS3, HE3, hl3⟩
              · exact ⟨b2, va2, vc2, rs2, rfl, hs2, he2, by omega⟩
            case rest =>
              clear hs2 he2 hl2 HO2 hBw2
              obtain ⟨b3, va3, vc3, rs, rfl, hs3, he3, hl3⟩ := hcut
              have hlow : Below B w wc := hst.out.low.trans hs3.out.low
              obtain ⟨t, ht⟩ : ∃ t, L[i]? = some t := ⟨_, List.getElem?_eq_getElem hlt⟩
              obtain ⟨b, o, kk, nm, aa, al, ac, tx, kA, kl, kc, rfl, -, hbB, c0, c1, c2, c3, c4, hT⟩ := (Tc.KidsAt.of_cells HK.out (fun b o _ hb => hlow.cell (p := ⟨b, o, none⟩) hb)).get ht
              obtain ⟨m, rfl⟩ : ∃ m, n = m + 1 := by
                cases n with
                | zero => exact hT.elim
                | succ m => exact ⟨m, rfl⟩
              obtain ⟨aa', ac', kA', kc', he, hal, hkl, hac, hkc, hat, hkd⟩ := id hT
              simp only [tv, Array.mk.injEq, List.cons.injEq, Value.int.injEq, Value.string.injEq, Value.slice.injEq, true_and, and_true] at he
              obtain ⟨rfl, rfl, ⟨rfl, rfl, rfl⟩, rfl, rfl, rfl, rfl⟩ := he
              have hto := HOK.out t (List.mem_of_getElem? ht)
              have HTO : Hid (okD (m + 1) r t) := hto
              have HTK : Hid (L.take (i + 1) = L.take i ++ [t]) := take_more ht
              have HKS1 : Hid (k1 + 1 ≤ k + ((L.take i).map (cnt (m + 1))).sum + 1 ∧ ((L.take (i + 1)).map (cnt (m + 1))).sum = ((L.take i).map (cnt (m + 1))).sum + cnt (m + 1) t ∧ ((L.take (i + 1)).map (cnt (m + 1))).sum ≤ (L.map (cnt (m + 1))).sum) := ⟨by have := hk1s.out; omega, sum_take ht, sum_le L (i + 1)⟩
              have hbc : b < wc.heap.size := by have := hs3.out.size; omega
              obtain ⟨wA, hwA⟩ : ∃ wA, wA = wc.alloc (.cells #[.int .i64 t.kind, .string t.name, .slice aa t.attrs.length ac, .string t.text, .slice kA t.kids.length kc] 40) := ⟨_, rfl⟩
              have hsA : wA.heap.size = wc.heap.size + 1 := by rw [hwA]; simp
              have hbA : Below wc.heap.size wc wA := by rw [hwA]; exact (Below.refl _ _).alloc (Nat.le_refl _) _
              have hbox : IsCells wA wc.heap.size #[.int .i64 t.kind, .string t.name, .slice aa t.attrs.length ac, .string t.text, .slice kA t.kids.length kc] := by rw [hwA]; exact isCells_new wc _ 40
              have HWA : Hid (wA = wc.alloc (.cells #[.int .i64 t.kind, .string t.name, .slice aa t.attrs.length ac, .string t.text, .slice kA t.kids.length kc] 40)) := hwA
              have hBc : B ≤ wc.heap.size := Nat.le_trans hBw hs3.out.size
              have HLA : Hid (Below B wc wA) := hbA.mono hBc
              have HAT : Hid (∀ W, Below B wA W → AttrsAt W lo B aa t.attrs) := fun W hW => hat.of_cells (fun b o _ hb => ((hbA.mono hBc).trans hW).cell (p := ⟨b, o, none⟩) hb)
              have HKD : Hid (∀ W, Below B wA W → Tc.KidsAt W lo B m kA t.kids) := fun W hW => Tc.KidsAt.of_cells hkd (fun b o _ hb => ((hbA.mono hBc).trans hW).cell (p := ⟨b, o, none⟩) hb)
              have HWS : Hid (BSt B w wA q0 b3 va3 vc3) := (hst.out.trans (by rw [HQ1.out]; exact hs3.out)).below hbA
              have HHW : Hid (∀ W, Below B wA W → HowAt W B ha H) := fun W hW => HHA.out.below ((hlow.trans (hbA.mono hBc)).trans hW)
              have HNX : Hid ((Value.slice va3 b3.length vc3).ownBlock ≠ some wc.heap.size) := fun e => by have := (own_block_lt hs3.out.own _ e).2; omega
              have HSA : Hid (BSt B wA wA (Value.slice va3 b3.length vc3).ownBlock b3 va3 vc3) := BSt.refl HWS.out.own (by omega)
              have hBA : B ≤ wA.heap.size := by omega
              have d0 : wA.cell? ⟨wc.heap.size, 0, none⟩ = some (.int .i64 t.kind) := hbox.cell 0
              have d1 : wA.cell? ⟨wc.heap.size, 1, none⟩ = some (.string t.name) := hbox.cell 1
              have d3 : wA.cell? ⟨wc.heap.size, 3, none⟩ = some (.string t.text) := hbox.cell 3
              have HBX : Hid (IsCells wA wc.heap.size #[.int .i64 t.kind, .string t.name, .slice aa t.attrs.length ac, .string t.text, .slice kA t.kids.length kc]) := hbox
              have HSZ : Hid (wA.heap.size = wc.heap.size + 1) := hsA
              clear hwA hsA hbA hbox hat hkd hT hto hlow ht hk1s hs3
              go_upto_region 13 with fail
              rw [← HWA.out]
              clear HWA c0 c1 c2 c3 c4 hbc
              generalize wc.heap.size = X at *
              by_cases h2 : t.kind = 2
              · rw [h2] at d0
                have htx : (tans t.text.data.toList).2 = 0 := by
                  have h := HTO.out.2.1
                  unfold ownE at h
                  rw [if_neg (by omega), if_pos h2] at h
                  exact h
                have hes := escape_any wA t.text false
                have hel := eans_lenL (q := false) htx
                obtain ⟨S, hS⟩ : ∃ S : ByteArray, S = ⟨(eans false t.text.data.toList).1.toArray⟩ := ⟨_, rfl⟩
                rw [← hS] at hes
                have HSD : Hid (S.data.toList = (eans false t.text.data.toList).1) := by show _ = _; rw [hS]
                have hSz : S.size ≤ 98304 := by have := size_list S; rw [HSD.out] at this; omega
                have HLT : Hid (LT (m + 1) t (eans false t.text.data.toList).1) := .inl ⟨h2, rfl⟩
                have HC1 : Hid (1 ≤ cnt (m + 1) t) := cnt_pos t
                clear hS hel h2 htx d1
                generalize (eans false t.text.data.toList).2.1 = e1 at *
                generalize (eans false t.text.data.toList).2.2 = e2 at *
                go_wp2_with fail
                refine hes.mono ?_
                rintro e w2 ⟨rfl, hb2⟩
                have HS2 : Hid (BSt B w w2 q0 b3 va3 vc3) := HWS.out.below hb2
                have hB2 : B ≤ w2.heap.size := by have := hb2.size; omega
                clear hes hb2 d0 d3
                have tokC : True := trivial
                go_wp2_with (at_builtin; have _t := tokC; refine wpList_puts rfl _ _ rfl B va3 vc3 b3 rfl HS2.out.own S rfl (by omega) hB2 ?_; intro b4 va4 vc4 w4 he4 hown4 hg4 hat4; have HS4 : Hid (BSt B w w4 q0 b4 va4 vc4) := HS2.out.put hown4 hg4 (hat4.imp id (fun e => ⟨_, e, Nat.le_refl _⟩)); have HE4 : Hid (b4 = b1 ++ (rems rs ++ (eans false t.text.data.toList).1)) := he4.trans (by rw [he3.out, HSD.out, List.append_assoc]); have hl4 : b4.length ≤ 4000000 := (by rw [he4, List.length_append, size_list]; omega); clear he4 hown4 hg4 hat4 tokC _t)
                go_roundw
                case rel =>
                  obtain ⟨y, hy, hby⟩ := HY.out
                  exact ⟨i + 1, k1 + 1, b4, va4, vc4, by omega, by go_num, by go_num, rfl, by have := HKS1.out; have := HKS.out; have := HC1.out; omega, by have := HKS1.out; have := HC1.out; show _ ≤ _; omega, by omega, HS4, .inl ⟨y ++ (rems rs ++ (eans false t.text.data.toList).1), by rw [HTK.out]; exact lf_snoc hy rs HLT.out, by rw [HE4.out, hby, List.append_assoc]⟩⟩
                case measure => simp [intOf]; omega
              · obtain ⟨hk1', hnm, hal2, hgo, hats, hkT⟩ := own_el HTO.out.2.1 h2
                have hnl := nameL_len hnm
                have hns : t.name.size ≤ 32 := by have := size_list t.name; omega
                have hk0 : (t.kind == 2) = false := beq_eq_false_iff_ne.2 h2
                have HATS : Hid (∀ p ∈ t.attrs, nameL p.1.data.toList = true ∧ (tans p.2.data.toList).2 = 0) := hats
                have HH2 : Hid (t.kind ≠ 2) := h2
                have HKT : Hid (kidsT t = t.kids) := hkT
                have HQB : Hid (∀ W bs va vc, BSt B wA W (Value.slice va3 b3.length vc3).ownBlock bs va vc → IsCells W X #[.int .i64 t.kind, .string t.name, .slice aa t.attrs.length ac, .string t.text, .slice kA t.kids.length kc]) := fun W _ _ _ h => HBX.out.of_block (h.other (by have := HSZ.out; omega) HNX.out)
                generalize hq3 : (Value.slice va3 b3.length vc3).ownBlock = q3 at *
                have HQ3 : Hid ((Value.slice va3 b3.length vc3).ownBlock = q3) := hq3
                clear hq3
                clear h2 hats hkT hk1' hnm
                have hadd1 : ∀ W : World, (Op.stringOp .add ⟨#[60]⟩ t.name).run Tryz.prog W = .ok (.string (⟨#[60]⟩ ++ t.name)) W := fun W => run_string_add_sum W _ _ (by show 1 + t.name.size ≤ _; omega)
                have HA1 : Hid ((⟨#[60]⟩ ++ t.name : ByteArray).data.toList = 60 :: t.name.data.toList) := by show _ = _; simp
                have ha1 : (⟨#[60]⟩ ++ t.name : ByteArray).size ≤ 33 := by rw [ByteArray.size_append]; show 1 + t.name.size ≤ 33; omega
                generalize (⟨#[60]⟩ ++ t.name : ByteArray) = S1 at *
                have tokD : True := trivial
                go_wp2_with (at_builtin; have _t := tokD; refine wpList_puts rfl _ _ rfl B va3 vc3 b3 rfl HSA.out.own S1 rfl (by omega) hBA ?_; intro b4 va4 vc4 w4 he4 hown4 hg4 hat4; have HS4 : Hid (BSt B wA w4 q3 b4 va4 vc4) := HSA.out.put hown4 hg4 (hat4.imp id (fun e => ⟨_, e, Nat.le_refl _⟩)); have HE4 : Hid (b4 = b3 ++ (60 :: t.name.data.toList)) := he4.trans (by rw [HA1.out]); have hl4 : b4.length ≤ 262200 := (by rw [he4, List.length_append, size_list]; omega); clear he4 hown4 hg4 hat4 tokD _t)
                clear hadd1 HA1 d0 d1 d3
                obtain ⟨al, hal3⟩ : ∃ al, al = if (bits BinOp.and IntKind.u8 (c : Int) 4 == 4) = true then t.attrs.reverse else t.attrs := ⟨_, rfl⟩
                have HALD : Hid (al = if (bits BinOp.and IntKind.u8 (c : Int) 4 == 4) = true then t.attrs.reverse else t.attrs) := hal3
                have hall : al.length = t.attrs.length := by rw [hal3]; split <;> simp
                clear hal3
                go_loopw [0, 16] (fun v0 v16 wx => ∃ (j : Nat) (b5 : Bs) (va5 : Option Addr) (vc5 : Nat), j ≤ t.attrs.length ∧ v16 = .int .i64 (j : Int) ∧ v0 = .slice va5 b5.length vc5 ∧ b5.length ≤ 262200 + 98400 * j ∧ Hid (BSt B wA wx q3 b5 va5 vc5) ∧ Hid (∃ y, LAs (al.take j) y ∧ b5 = b4 ++ y)) (fun _ v16 _ => t.attrs.length - (intOf v16).toNat)
                case atStart => exact ⟨0, b4, va4, vc4, Nat.zero_le _, rfl, rfl, by omega, HS4, [], rfl, by simp⟩
                case round =>
                  obtain ⟨j, b5, va5, vc5, hj, rfl, rfl, hl5, hs5, hy5⟩ := hrel
                  have hbx5 := HQB.out _ _ _ _ hs5.out
                  have p2 : wr.cell? ⟨X, 2, none⟩ = some (.slice aa t.attrs.length ac) := hbx5.cell 2
                  have hXr : X < wr.heap.size := hbx5.lt
                  have hsz5 := hs5.out.size
                  by_cases hjt : j < t.attrs.length
                  · have j1 : (j : Int) < (t.attrs.length : Int) := by omega
                    have j0 : (0 : Int) ≤ (j : Int) := by omega
                    obtain ⟨p, hp⟩ : ∃ p, al[j]? = some p := ⟨_, List.getElem?_eq_getElem (by omega)⟩
                    obtain ⟨p0, hp0⟩ : ∃ p0, t.attrs[j]? = some p0 := ⟨_, List.getElem?_eq_getElem hjt⟩
                    have hlow5 := hs5.out.low
                    obtain ⟨ab, ao, rfl, -, hab, e1, e2⟩ := HAT.out wr hlow5 j p0 hp0
                    have hpm : p ∈ t.attrs := by
                      have h := List.mem_of_getElem? hp
                      rw [HALD.out] at h
                      split at h
                      · simpa using h
                      · exact h
                    obtain ⟨hpn, hpv⟩ := HATS.out p hpm
                    have HPV : Hid ((tans p.2.data.toList).2 = 0) := hpv
                    have HTJ : Hid (al.take (j + 1) = al.take j ++ [p]) := take_more hp
                    have hps : p.1.size ≤ 32 := by have := nameL_len hpn; have := size_list p.1; omega
                    have HPP : Hid ((bits BinOp.and IntKind.u8 (c : Int) 4 == 4) = false → p = p0) := fun h4 => by
                      have h := HALD.out
                      rw [h4, if_neg (by simp)] at h
                      rw [h] at hp
                      exact Option.some.inj (hp.symm.trans hp0)
                    have HPR : Hid ((bits BinOp.and IntKind.u8 (c : Int) 4 == 4) = true → t.attrs[t.attrs.length - 1 - j]? = some p) := fun h4 => by
                      have h := HALD.out
                      rw [h4, if_pos rfl] at h
                      rw [h, List.getElem?_reverse hjt] at hp
                      exact hp
                    have habr : ab < wr.heap.size := by omega
                    clear hp hp0 hpm hpn hpv hbx5
                    go_upto_if 91 with fail
                    go_cut [] (fun wx => IsCells wx wr.heap.size #[.string p.1, .string p.2] ∧ Hid (Below wr.heap.size wr wx))
                    case first =>
                      cases h4 : (bits BinOp.and IntKind.u8 (c : Int) 4 == 4) with
                      | false =>
                        have hpe := HPP.out h4
                        subst hpe
                        go_wp2
                        go_meet
                        exact ⟨isCells_new wr _ 55, below_new wr _⟩
                      | true =>
                        obtain ⟨ab2, ao2, he2, -, hab2, f1, f2⟩ := HAT.out wr hlow5 _ p (HPR.out h4)
                        cases he2
                        have i5 : ((t.attrs.length : Nat) : Int) - 1 - (j : Int) = ((t.attrs.length - 1 - j : Nat) : Int) := by omega
                        have i6 : ((t.attrs.length - 1 - j : Nat) : Int) < ((t.attrs.length : Nat) : Int) := by omega
                        have i7 : (0 : Int) ≤ ((t.attrs.length - 1 - j : Nat) : Int) := by omega
                        clear HPR HPP
                        generalize t.attrs.length - 1 - j = jj at *
                        go_wp2
                        go_meet
                        exact ⟨isCells_new wr _ 55, below_new wr _⟩
                    case rest =>
                      obtain ⟨hbx6, hbl6⟩ := hcut
                      have hs6 : Hid (BSt B wA wc q3 b5 va5 vc5) := hs5.out.below hbl6.out
                      have n0 : wc.cell? ⟨wr.heap.size, 0, none⟩ = some (.string p.1) := hbx6.cell 0
                      have n1 : wc.cell? ⟨wr.heap.size, 1, none⟩ = some (.string p.2) := hbx6.cell 1
                      have hwl : wr.heap.size < wc.heap.size := hbx6.lt
                      have hes := escape_any wc p.2 true
                      have hel := eans_lenL (q := true) HPV.out
                      obtain ⟨S, hS⟩ : ∃ S : ByteArray, S = ⟨(eans true p.2.data.toList).1.toArray⟩ := ⟨_, rfl⟩
                      rw [← hS] at hes
                      have HSD : Hid (S.data.toList = (eans true p.2.data.toList).1) := by show _ = _; rw [hS]
                      have hSz : S.size ≤ 98304 := by have := size_list S; rw [HSD.out] at this; omega
                      clear hS hel e1 e2 p2 hbx6
                      generalize (eans true p.2.data.toList).2.1 = z1 at *
                      generalize (eans true p.2.data.toList).2.2 = z2 at *
                      go_wp2_with fail
                      refine hes.mono ?_
                      rintro e w7 ⟨rfl, hb7⟩
                      have HS7 : Hid (BSt B wA w7 q3 b5 va5 vc5) := hs6.out.below hb7
                      have m0 : w7.cell? ⟨wr.heap.size, 0, none⟩ = some (.string p.1) := (hb7.cell (p := ⟨wr.heap.size, 0, none⟩) hwl).trans n0
                      have hB7 : B ≤ w7.heap.size := by have := HS7.out.size; omega
                      have hw7 : wr.heap.size < w7.heap.size := by have := hb7.size; omega
                      clear hes hb7 n0 n1
                      go_upto_region 25 with fail
                      go_cut [116] (fun s116 wx => (∃ g : Bool, s116 = .bool g ∧ (g = true → Hid (qOk 39 p))) ∧ wx = w7)
                      case first =>
                        cases h8 : (bits BinOp.and IntKind.u8 (c : Int) 8 == 8) with
                        | false =>
                          go_wp2
                          go_meet
                          exact ⟨⟨false, rfl, fun h => by cases h⟩, rfl⟩
                        | true =>
                          have hhas := has_any w7 S (by omega) _ rfl
                          have HQ9 : Hid (S.data.toList.any (· == 39) = false → qOk 39 p) := fun h => q39 HSD.out h
                          generalize S.data.toList.any (· == 39) = g at *
                          go_wp2_with fail
                          refine hhas.mono ?_
                          rintro e w8 ⟨rfl, rfl⟩
                          clear hhas
                          go_wp2
                          go_meet
                          exact ⟨⟨!g, rfl, fun h => HQ9.out (by simpa using h)⟩, rfl⟩
                      case rest =>
                        obtain ⟨⟨g, rfl, hg39⟩, hwc⟩ := hcut
                        have hwc' := hwc.symm
                        clear hwc
                        subst hwc'
                        obtain ⟨q, hq, hqs⟩ : ∃ q : UInt8, Hid (qOk q p) ∧ Hid (q = if g = true then 39 else 34) := by
                          cases g with
                          | true => exact ⟨39, hg39 rfl, rfl⟩
                          | false => exact ⟨34, q34 HPV.out, rfl⟩
                        obtain ⟨A1, hA1⟩ : ∃ A : ByteArray, A = ⟨#[10, 32]⟩ ++ p.1 := ⟨_, rfl⟩
                        obtain ⟨A2, hA2⟩ : ∃ A : ByteArray, A = A1 ++ ⟨#[61]⟩ := ⟨_, rfl⟩
                        obtain ⟨A3, hA3⟩ : ∃ A : ByteArray, A = A2 ++ ⟨#[q]⟩ := ⟨_, rfl⟩
                        obtain ⟨A4, hA4⟩ : ∃ A : ByteArray, A = A3 ++ S := ⟨_, rfl⟩
                        obtain ⟨A5, hA5⟩ : ∃ A : ByteArray, A = A4 ++ ⟨#[q]⟩ := ⟨_, rfl⟩
                        have s1 : A1.size = 2 + p.1.size := by rw [hA1, ByteArray.size_append]; rfl
                        have s2 : A2.size = A1.size + 1 := by rw [hA2, ByteArray.size_append]; rfl
                        have s3 : A3.size = A2.size + 1 := by rw [hA3, ByteArray.size_append]; rfl
                        have s4 : A4.size = A3.size + S.size := by rw [hA4, ByteArray.size_append]
                        have s5 : A5.size = A4.size + 1 := by rw [hA5, ByteArray.size_append]; rfl
                        have g1 : ∀ W : World, (Op.stringOp .add ⟨#[10, 32]⟩ p.1).run Tryz.prog W = .ok (.string A1) W := fun W => by rw [hA1]; exact run_string_add_sum W _ _ (by show 2 + p.1.size ≤ _; omega)
                        have g2 : ∀ W : World, (Op.stringOp .add A1 ⟨#[61]⟩).run Tryz.prog W = .ok (.string A2) W := fun W => by rw [hA2]; exact run_string_add_sum W _ _ (by show A1.size + 1 ≤ _; omega)
                        have g3 : ∀ W : World, (Op.stringOp .add A2 ⟨#[q]⟩).run Tryz.prog W = .ok (.string A3) W := fun W => by rw [hA3]; exact run_string_add_sum W _ _ (by show A2.size + 1 ≤ _; omega)
                        have g4 : ∀ W : World, (Op.stringOp .add A3 S).run Tryz.prog W = .ok (.string A4) W := fun W => by rw [hA4]; exact run_string_add_sum W _ _ (by omega)
                        have g5 : ∀ W : World, (Op.stringOp .add A4 ⟨#[q]⟩).run Tryz.prog W = .ok (.string A5) W := fun W => by rw [hA5]; exact run_string_add_sum W _ _ (by show A4.size + 1 ≤ _; omega)
                        have HA5 : Hid (A5.data.toList = prL q p) := by
                          show _ = _
                          rw [hA5, hA4, hA3, hA2, hA1]
                          simp [prL, HSD.out]
                        have hA5s : A5.size ≤ 98400 := by omega
                        clear hA1 hA2 hA3 hA4 hA5 s1 s2 s3 s4 s5 hg39
                        have tokF : True := trivial
                        cases g with
                        | false =>
                          obtain rfl : q = 34 := hqs.out
                          go_wp2_with (at_builtin; have _t := tokF; refine wpList_puts rfl _ _ rfl B va5 vc5 b5 rfl HS7.out.own A5 rfl (by omega) hB7 ?_; intro b6 va6 vc6 w9 he6 hown6 hg6 hat6; have HS9 : Hid (BSt B wA w9 q3 b6 va6 vc6) := HS7.out.put hown6 hg6 (hat6.imp id (fun e => ⟨_, e, Nat.le_refl _⟩)); have HE6 : Hid (b6 = b5 ++ prL 34 p) := he6.trans (by rw [HA5.out]); have hl6 : b6.length ≤ 262200 + 98400 * (j + 1) := (by rw [he6, List.length_append, size_list]; omega); clear he6 hown6 hg6 hat6 tokF _t)
                          go_roundw
                          case rel =>
                            obtain ⟨y, hy, hby⟩ := hy5.out
                            exact ⟨j + 1, b6, va6, vc6, by omega, by go_num, rfl, hl6, HS9, y ++ prL 34 p, by rw [HTJ.out]; exact las_snoc hy hq.out, by rw [HE6.out, hby, List.append_assoc]⟩
                          case measure => simp [intOf]; omega
                        | true =>
                          obtain rfl : q = 39 := hqs.out
                          go_wp2_with (at_builtin; have _t := tokF; refine wpList_puts rfl _ _ rfl B va5 vc5 b5 rfl HS7.out.own A5 rfl (by omega) hB7 ?_; intro b6 va6 vc6 w9 he6 hown6 hg6 hat6; have HS9 : Hid (BSt B wA w9 q3 b6 va6 vc6) := HS7.out.put hown6 hg6 (hat6.imp id (fun e => ⟨_, e, Nat.le_refl _⟩)); have HE6 : Hid (b6 = b5 ++ prL 39 p) := he6.trans (by rw [HA5.out]); have hl6 : b6.length ≤ 262200 + 98400 * (j + 1) := (by rw [he6, List.length_append, size_list]; omega); clear he6 hown6 hg6 hat6 tokF _t)
                          go_roundw
                          case rel =>
                            obtain ⟨y, hy, hby⟩ := hy5.out
                            exact ⟨j + 1, b6, va6, vc6, by omega, by go_num, rfl, hl6, HS9, y ++ prL 39 p, by rw [HTJ.out]; exact las_snoc hy hq.out, by rw [HE6.out, hby, List.append_assoc]⟩
                          case measure => simp [intOf]; omega
                  · have hje : j = t.attrs.length := by omega
                    have j1 : ¬ (j : Int) < (t.attrs.length : Int) := by omega
                    obtain ⟨y, hy, hby⟩ := hy5.out
                    rw [List.take_of_length_le (by omega)] at hy
                    have HYL : Hid (LAs al y) := hy
                    have HBY : Hid (b5 = b4 ++ y) := hby
                    have hl5b : b5.length ≤ 3411000 := by omega
                    have hB5 : B ≤ wr.heap.size := by omega
                    clear hy hby hy5 hbx5 hje
                    have tokG : True := trivial
                    go_upto_if 131 with fail
                    go_cut [0] (fun s0 wx => ∃ (b6 : Bs) (va6 : Option Addr) (vc6 : Nat) (bl : Bs), s0 = .slice va6 b6.length vc6 ∧ (bl = [] ∨ bl = [32, 9]) ∧ Hid (BSt B wA wx q3 b6 va6 vc6) ∧ Hid (b6 = b5 ++ bl) ∧ b6.length ≤ 3411002)
                    case first =>
                      go_wp2_with (at_builtin; have _t := tokG; refine wpList_puts rfl _ _ rfl B va5 vc5 b5 rfl hs5.out.own ⟨#[32, 9]⟩ rfl (by show b5.length + 2 ≤ _; omega) hB5 ?_; intro b6 va6 vc6 w9 he6 hown6 hg6 hat6; have HS9 : Hid (BSt B wA w9 q3 b6 va6 vc6) := hs5.out.put hown6 hg6 (hat6.imp id (fun e => ⟨_, e, Nat.le_refl _⟩)); have HE6 : Hid (b6 = b5 ++ [32, 9]) := he6; have hl6 : b6.length ≤ 3411002 := (by rw [he6]; simp; omega); clear he6 hown6 hg6 hat6 tokG _t)
                      all_goals go_meet
                      · exact ⟨b6, va6, vc6, [32, 9], rfl, .inr rfl, HS9, HE6, hl6⟩
                      · exact ⟨b5, va5, vc5, [], rfl, .inl rfl, hs5, by show _ = _; simp, by omega⟩
                    case rest =>
                      obtain ⟨b6, va6, vc6, bl, rfl, hbl6, hs6, he6, hl6⟩ := hcut
                      have hbx6 := HQB.out _ _ _ _ hs6.out
                      have p4 : wc.cell? ⟨X, 4, none⟩ = some (.slice kA t.kids.length kc) := hbx6.cell 4
                      have hX6 : X < wc.heap.size := hbx6.lt
                      have hsz6 := hs6.out.size
                      have hB6 : B ≤ wc.heap.size := by omega
                      have HOR : Hid (al = t.attrs ∨ al = t.attrs.reverse) := by
                        show _ ∨ _
                        rw [HALD.out]
                        split
                        · exact .inr rfl
                        · exact .inl rfl
                      have HLTE : Hid (∀ z, LEnd (LF (LT m)) t.name.data.toList t.kids z → LT (m + 1) t (60 :: (t.name.data.toList ++ (y ++ (bl ++ z))))) := fun z hz => .inr ⟨HH2.out, al, y, bl, z, HOR.out, HYL.out, hbl6, hz, rfl⟩
                      have HB6E : Hid (∀ z, b6 ++ z = b1 ++ (rems rs ++ (60 :: (t.name.data.toList ++ (y ++ (bl ++ z)))))) := fun z => by rw [he6.out, HBY.out, HE4.out, he3.out]; simp [List.append_assoc]
                      have HCT : Hid (cnt (m + 1) t = 1 + (t.kids.map (cnt m)).sum) := by show _ = _; rw [cnt, HKT.out]
                      have HWW : Hid (∀ W bs va vc, BSt B wA W q3 bs va vc → BSt B w W q0 bs va vc) := fun W _ _ _ h => HWS.out.trans (by rw [HQ3.out]; exact h)
                      clear hbx6 hbl6 p2 hXr hsz5
                      by_cases hend : t.kids = [] ∧ (bits BinOp.and IntKind.u8 (c : Int) 32 == 0) = true
                      · obtain ⟨hk0, h32⟩ := hend
                        have hkl0 : t.kids.length = 0 := by rw [hk0]; rfl
                        have HLT : Hid (LT (m + 1) t (60 :: (t.name.data.toList ++ (y ++ (bl ++ [47, 62]))))) := HLTE.out _ (.inl ⟨hk0, rfl⟩)
                        have hki : ((t.kids.length : Nat) : Int) == 0 := by rw [hkl0]; rfl
                        have tokH : True := trivial
                        rw [hkl0] at p4
                        clear HLTE hk0
                        go_wp2_with (at_builtin; have _t := tokH; refine wpList_puts rfl _ _ rfl B va6 vc6 b6 rfl hs6.out.own ⟨#[47, 62]⟩ rfl (by show b6.length + 2 ≤ _; omega) hB6 ?_; intro b7 va7 vc7 w9 he7 hown7 hg7 hat7; have HS9 : Hid (BSt B wA w9 q3 b7 va7 vc7) := hs6.out.put hown7 hg7 (hat7.imp id (fun e => ⟨_, e, Nat.le_refl _⟩)); have HE7 : Hid (b7 = b6 ++ [47, 62]) := he7; have hl7 : b7.length ≤ 4000000 := (by rw [he7]; simp; omega); clear he7 hown7 hg7 hat7 tokH _t)
                        go_roundw
                        case rel =>
                          obtain ⟨y0, hy0, hby0⟩ := HY.out
                          exact ⟨i + 1, k1 + 1, b7, va7, vc7, by omega, by go_num, by go_num, rfl, by have := HKS1.out; have := HKS.out; have := HCT.out; omega, by have := HKS1.out; have := HCT.out; show _ ≤ _; omega, by omega, HWW.out _ _ _ _ HS9.out, .inl ⟨y0 ++ (rems rs ++ _), by rw [HTK.out]; exact lf_snoc hy0 rs HLT.out, by rw [HE7.out, HB6E.out, hby0, List.append_assoc]⟩⟩
                        case measure => simp [intOf]; omega
                      · obtain ⟨w6, hw6⟩ : ∃ w6, w6 = wc := ⟨_, rfl⟩
                        subst hw6
                        go_upto_region 30 with fail
                        go_cut [142] (fun s142 wx => s142 = .bool false ∧ wx = w6)
                        case first =>
                          by_cases hk0 : t.kids = []
                          · have h32 : (bits BinOp.and IntKind.u8 (c : Int) 32 == 0) = false := by
                              cases h : (bits BinOp.and IntKind.u8 (c : Int) 32 == 0) with
                              | false => rfl
                              | true => exact absurd ⟨hk0, h⟩ hend
                            have hkl0 : t.kids.length = 0 := by rw [hk0]; rfl
                            rw [hkl0] at p4
                            clear hk0 hend hkl0
                            go_wp2
                            go_meet
                            exact ⟨rfl, rfl⟩
                          · have hne : (((t.kids.length : Nat) : Int) == 0) = false := by
                              rw [beq_eq_false_iff_ne]
                              intro e
                              exact hk0 (List.eq_nil_of_length_eq_zero (by omega))
                            clear hk0 hend
                            go_wp2
                            go_meet
                            exact ⟨rfl, rfl⟩
                        case rest =>
                          obtain ⟨rfl, hwc⟩ := hcut
                          have hwc' := hwc.symm
                          clear hwc hend
                          subst hwc'
                          have tokI : True := trivial
                          have HR0 : Hid (0 < r) := HTO.out.1
                          obtain ⟨b8, hb8⟩ : ∃ b8, b8 = b6 ++ [62] := ⟨_, rfl⟩
                          have hlen8 : b6.length + 1 = b8.length := by rw [hb8]; simp
                          have HB8 : Hid (b8 = b6 ++ [62]) := hb8
                          have HL8 : Hid (b6.length + 1 = b8.length) := hlen8
                          have hl8 : b8.length ≤ 3411003 := by omega
                          clear hb8 hlen8
                          go_wp2_with (at_builtin; have _t := tokI; refine wpList_app rfl _ _ rfl Tryz.underlying41 infoB rfl (by decide) B (.slice va6 b6.length vc6) b6.length (Lib.byteCells b6) rfl (own_of_block hs6.out.own (fun j hj => (Below.heap_alloc _ _ _ (own_block_lt hs6.out.own j hj).2))) (some ⟨w6.heap.size, 0, none⟩) 1 1 [.int .u8 62] rfl rfl (news_new w6 #[.int .u8 62] 5) (fun u hu => by simp at hu; subst hu; rfl) (by unfold maxLen; omega) (by omega) (by simp; omega) ?_; intro v8 w8 hown8 hg8 _ hat8; obtain ⟨va8, vc8, hv8⟩ := own_slice hown8; subst hv8; rw [HL8.out, show Lib.byteCells b6 ++ [Value.int .u8 62] = Lib.byteCells b8 by rw [HB8.out, cells_app]; rfl] at hown8; rw [HL8.out] at hat8; rw [HL8.out]; have HS8 : Hid (BSt B wA w8 q3 b8 va8 vc8) := (hs6.out.below (below_new w6 _)).put hown8 hg8 (hat8.imp id (fun e => ⟨_, e, Nat.le_refl _⟩)); have p8 : w8.cell? ⟨X, 4, none⟩ = some (.slice kA t.kids.length kc) := (HQB.out _ _ _ _ HS8.out).cell 4; clear hown8 hg8 hat8 tokI _t)
                          have hB8 : B ≤ w8.heap.size := by have := HS8.out.size; omega
                          have hcall := HIH.out m rfl w8 B va8 vc8 b8 lo kA t.kids kc ha H hcap (k1 + 1) (r - 1) HS8.out.own hB8 (HKD.out w8 HS8.out.low) (fun x hx => HTO.out.2.2 x (by rw [HKT.out]; exact hx)) (HHW.out w8 HS8.out.low) hH (by have := HKS1.out; have := HKS.out; have := HCT.out; omega) (by omega) (by omega)
                          rw [show ((k1 + 1 : Nat) : Int) = (k1 : Int) + 1 from by omega] at hcall
                          refine hcall.mono ?_
                          rintro e w9 ⟨va9, vc9, b9, k9, rfl, hs9, hk9, hlr9, hl9⟩
                          have HS9 : Hid (BSt B wA w9 q3 b9 va9 vc9) := HS8.out.trans hs9
                          have r1 : w9.cell? ⟨X, 1, none⟩ = some (.string t.name) := (HQB.out _ _ _ _ HS9.out).cell 1
                          have hB9 : B ≤ w9.heap.size := by have := HS9.out.size; omega
                          have HLR9 : Hid (LoR (LF (LT m) t.kids) b8 b9) := hlr9
                          have HK9 : Hid (k9 ≤ k1 + 1 + (t.kids.map (cnt m)).sum) := hk9
                          have hk9b : k9 ≤ 9000 := by have := HKS1.out; have := HKS.out; have := HCT.out; omega
                          have hl9b : b9.length ≤ 4000000 + 100 * r - 100 := by have := HR0.out; omega
                          obtain ⟨E1, hE1⟩ : ∃ A : ByteArray, A = ⟨#[60, 47]⟩ ++ t.name := ⟨_, rfl⟩
                          obtain ⟨E2, hE2⟩ : ∃ A : ByteArray, A = E1 ++ ⟨#[32, 62]⟩ := ⟨_, rfl⟩
                          have s1 : E1.size = 2 + t.name.size := by rw [hE1, ByteArray.size_append]; rfl
                          have s2 : E2.size = E1.size + 2 := by rw [hE2, ByteArray.size_append]; rfl
                          have g1 : ∀ W : World, (Op.stringOp .add ⟨#[60, 47]⟩ t.name).run Tryz.prog W = .ok (.string E1) W := fun W => by rw [hE1]; exact run_string_add_sum W _ _ (by show 2 + t.name.size ≤ _; omega)
                          have g2 : ∀ W : World, (Op.stringOp .add E1 ⟨#[32, 62]⟩).run Tryz.prog W = .ok (.string E2) W := fun W => by rw [hE2]; exact run_string_add_sum W _ _ (by show E1.size + 2 ≤ _; omega)
                          have HE2 : Hid (E2.data.toList = [60, 47] ++ t.name.data.toList ++ [32, 62]) := by show _ = _; rw [hE2, hE1]; simp
                          have hE2s : E2.size ≤ 36 := by omega
                          have HR1 : Hid (100 ≤ 4000000 + 100 * r) := by show _ ≤ _; omega
                          clear hE1 hE2 s1 s2 hcall hs9 hk9 hlr9 hl9 p4 p8
                          have tokJ : True := trivial
                          go_wp2_with (at_builtin; have _t := tokJ; refine wpList_puts rfl _ _ rfl B va9 vc9 b9 rfl HS9.out.own E2 rfl (by omega) hB9 ?_; intro b10 va10 vc10 w10 he10 hown10 hg10 hat10; have HS10 : Hid (BSt B wA w10 q3 b10 va10 vc10) := HS9.out.put hown10 hg10 (hat10.imp id (fun e => ⟨_, e, Nat.le_refl _⟩)); have HE10 : Hid (b10 = b9 ++ ([60, 47] ++ t.name.data.toList ++ [32, 62])) := he10.trans (by rw [HE2.out]); have hl10 : b10.length ≤ 4000000 + 100 * r := (by rw [he10, List.length_append, size_list]; have := HR0.out; omega); clear he10 hown10 hg10 hat10 tokJ _t)
                          go_roundw
                          case rel =>
                            refine ⟨i + 1, k9, b10, va10, vc10, by omega, by go_num, rfl, rfl, hk9b, by have := HKS1.out; have := HCT.out; have := HK9.out; show _ ≤ _; omega, hl10, HWW.out _ _ _ _ HS10.out, ?_⟩
                            rcases HLR9.out with ⟨kx, hkx, e9⟩ | hlong
                            · obtain ⟨y0, hy0, hby0⟩ := HY.out
                              refine .inl ⟨y0 ++ (rems rs ++ (60 :: (t.name.data.toList ++ (y ++ (bl ++ (62 :: (kx ++ ([60, 47] ++ t.name.data.toList ++ [32, 62])))))))), by rw [HTK.out]; exact lf_snoc hy0 rs (HLTE.out _ (.inr ⟨kx, hkx, rfl⟩)), ?_⟩
                              have hz := HB6E.out (62 :: (kx ++ ([60, 47] ++ t.name.data.toList ++ [32, 62])))
                              have hz1 : b10 = b6 ++ (62 :: (kx ++ ([60, 47] ++ t.name.data.toList ++ [32, 62]))) := by rw [HE10.out, e9, HB8.out]; simp [List.append_assoc]
                              exact (hz1.trans hz).trans (by rw [hby0]; exact List.append_assoc _ _ _)
                            · refine .inr ?_
                              rw [HE10.out, List.length_append]
                              omega
                          case measure => simp [intOf]; omega
    · have HE : Hid (LoR (LF (LT n) L) bs b1) := by
        have := hlr.out
        rwa [List.take_of_length_le (by omega)] at this
      have HS1 : Hid (k1 ≤ k + (L.map (cnt n)).sum) := by
        have := hk1s.out
        rwa [List.take_of_length_le (by omega)] at this
      have t1 : ¬ (i : Int) < (L.length : Int) := by omega
      clear hlr hk1s
      go_wp2
      go_ret2
      exact ⟨va1, vc1, b1, k1, rfl, hst.out, HS1.out, HE.out, hb1⟩

theorem loose_any : ∀ n, LoAll n
  | 0 => loose_n 0 (fun m h => by cases h)
  | n + 1 => loose_n (n + 1) (fun m h => by cases h; exact loose_any n)

end Go.Proofs.YtmifejkddgcbmaaGreat
