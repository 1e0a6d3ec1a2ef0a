/- What 'spread' does: of the windows around a place the first that is not too full is found, and its places are spread over it. -/
import Derived.Test.YtkppcnednfjbhaaRespace
import Derived.Test.YtkppcnednfjbhaaNum
namespace Go.Proofs.Ytkppcnednfjbhaa
open Go.RowKit Go.Maps

theorem wrap_sz {K : Nat} (h : K ≤ 13) : IntKind.u64.wrap (2 ^ (10 + K * 4)) = (szK K : Int) := by
  have h1 := (szK_le h).2
  have e : (2 : Int) ^ (10 + K * 4) = (szK K : Int) := by simp [szK]
  rw [e]
  generalize szK K = s at *
  simp only [IntKind.wrap_u64]
  omega

theorem wrap_pw {K : Nat} (h : K ≤ 13) : wrap64 (2 ^ K) = ((2 ^ K : Nat) : Int) ∧ 1 ≤ 2 ^ K ∧ 2 ^ K ≤ 8192 := by
  have h1 : 2 ^ K ≤ 2 ^ 13 := Nat.pow_le_pow_right (by decide) h
  have h2 : 0 < 2 ^ K := Nat.pow_pos (by decide)
  refine ⟨?_, h2, h1⟩
  have e : (2 : Int) ^ K = ((2 ^ K : Nat) : Int) := by simp
  rw [e]
  generalize 2 ^ K = s at *
  unfold wrap64
  omega

theorem wrap_step {sz cnt : Nat} (h : sz ≤ 4611686018427387904) : IntKind.u64.wrap ((sz : Int) / ((cnt : Int) + 1)) = ((sz / (cnt + 1) : Nat) : Int) := by
  have h1 := Nat.div_le_self sz (cnt + 1)
  have e : (sz : Int) / ((cnt : Int) + 1) = ((sz / (cnt + 1) : Nat) : Int) := by simp
  rw [e]
  generalize sz / (cnt + 1) = s at *
  simp only [IntKind.wrap_u64]
  omega

theorem step_mul (sz cnt : Nat) : cnt * (sz / (cnt + 1)) ≤ sz := by
  have h1 := Nat.div_mul_le_self sz (cnt + 1)
  have h2 : cnt * (sz / (cnt + 1)) ≤ (sz / (cnt + 1)) * (cnt + 1) := by rw [Nat.mul_comm]; exact Nat.mul_le_mul_left _ (by omega)
  omega

def Found (S : St) (q : Nat) (w' : World) (pb : Nat) : Prop :=
  ∃ K f l, K ≤ 13 ∧ Ext (labAt S.ns) S.ns.length q (bsK (labAt S.ns q) K) (szK K) f l ∧ l - f + 1 ≤ 2 ^ K ∧
    (K = 0 ∨ ∃ K' f' l', K = K' + 1 ∧ Ext (labAt S.ns) S.ns.length q (bsK (labAt S.ns q) K') (szK K') f' l' ∧ 2 ^ K' < l' - f' + 1) ∧
    Lies w' pb (spreadTo S (f - 1) (bsK (labAt S.ns q) K) (szK K / (l - f + 1 + 1)) (l - f + 1))

def Before (S : St) (q f l K : Nat) : Prop := (K = 0 ∧ f = q + 1 ∧ l = q + 1) ∨ ∃ K', K = K' + 1 ∧ Ext (labAt S.ns) S.ns.length q (bsK (labAt S.ns q) K') (szK K') f l ∧ 2 ^ K' < l - f + 1

set_option maxRecDepth 100000 in
set_option maxHeartbeats 4000000 in
theorem spread_any (w : World) (pb : Nat) (S : St) (q : Nat) (h : Lies w pb S) (hq : q < S.ns.length) (hlen : S.ns.length ≤ 8192) (hwr : S.writes + 8192 < 18446744073709551616)
    (hlab : ∀ c, 1 ≤ c → c ≤ S.ns.length → labAt S.ns c < 4611686018427387904) (hup : ∀ c, q + 2 ≤ c → c ≤ S.ns.length → labAt S.ns q ≤ labAt S.ns c) (htag : ∀ c, 1 ≤ c → c ≤ S.ns.length → tagAt S.ns c ≠ 0) :
    Calls Try.prog 31 #[.pointer (some ⟨pb, 0, none⟩), .pointer (prevOf pb S.ns (q + 1))] w fun e w' => e = .returned (.tuple #[]) ∧ Found S q w' pb ∧ Turn (Own pb S) w w' := by
  obtain ⟨b, o, hb, -, -, hpv, -⟩ := h.place (c := q + 1) (by omega)
  obtain ⟨b0, o0, hb0, -, hl0, -⟩ := h.place (c := q) (by omega)
  simp only [backOf] at hpv
  rw [hb0] at hpv
  rw [hb]
  have HB : Hid (prevOf pb S.ns (q + 1) = some ⟨b, o, none⟩) := hb
  have HX : Hid (∀ c, 1 ≤ c → c ≤ S.ns.length → labAt S.ns c < 4611686018427387904) := hlab
  have HU : Hid (∀ c, q + 2 ≤ c → c ≤ S.ns.length → labAt S.ns q ≤ labAt S.ns c) := hup
  have HT : Hid (∀ c, 1 ≤ c → c ≤ S.ns.length → tagAt S.ns c ≠ 0) := htag
  have HL : Hid (Lies w pb S) := h
  have hx0 : labAt S.ns q < 4611686018427387904 := by
    cases q with
    | zero => simp [labAt]
    | succ i => exact hlab _ (by omega) (by omega)
  clear hb hb0 hlab hup htag h
  go_enter Try.func31, Try.ntmps31
  go_wp2
  go_loop [5, 6, 7, 8] (fun x y c k => ∃ (f l K : Nat), x = .pointer (prevOf pb S.ns f) ∧ y = .pointer (prevOf pb S.ns l) ∧ c = .int .i64 ((l - f + 1 : Nat) : Int) ∧ k = .int .i64 (K : Int) ∧ 1 ≤ f ∧ f ≤ q + 1 ∧ q + 1 ≤ l ∧ l ≤ S.ns.length ∧ K ≤ 13 ∧ Before S q f l K) (fun _ _ _ k => 14 - (intOf k).toNat)
  case atStart => exact ⟨q + 1, q + 1, 0, by rw [HB.out], by rw [HB.out], by simp, rfl, by omega, by omega, by omega, by omega, by omega, .inl ⟨rfl, rfl, rfl⟩⟩
  case round =>
    obtain ⟨f, l, K, rfl, rfl, rfl, rfl, hf1, hf2, hl1, hl2, hK, hprev⟩ := hrel
    unfold Before at hprev
    have hsz := wrap_sz hK
    have hszb := szK_le hK
    obtain ⟨hpw, hpw1, hpw2⟩ := wrap_pw hK
    have hbs1 := bsK_le (labAt S.ns q) K
    have hbs2 : (labAt S.ns q : Int) - (labAt S.ns q : Int) % (szK K : Int) = (bsK (labAt S.ns q) K : Int) := by
      unfold bsK
      have := Nat.mod_le (labAt S.ns q) (szK K)
      rw [Int.ofNat_sub this]
      rfl
    have hx1 : (labAt S.ns q : Int) % (szK K : Int) ≤ labAt S.ns q := by
      have := Nat.mod_le (labAt S.ns q) (szK K)
      exact_mod_cast this
    have hx2 : 0 ≤ (labAt S.ns q : Int) % (szK K : Int) := Int.emod_nonneg _ (by have := hszb.1; omega)
    have hlow : Hid (∀ c, f ≤ c → c ≤ q → bsK (labAt S.ns q) K ≤ labAt S.ns c) := by
      intro c h1 h2
      rcases hprev with ⟨_, e, _⟩ | ⟨K', rfl, hE, _⟩
      · omega
      · exact Nat.le_trans (bsK_mono _ _).1 (hE.lo c h1 h2)
    have hhigh : Hid (∀ c, q + 2 ≤ c → c ≤ l → labAt S.ns c < bsK (labAt S.ns q) K + szK K) := by
      intro c h1 h2
      rcases hprev with ⟨_, _, e⟩ | ⟨K', rfl, hE, _⟩
      · omega
      · exact Nat.lt_of_lt_of_le (hE.hi c h1 h2) (bsK_mono _ _).2
    have Hprev : Hid (K = 0 ∨ ∃ K' f' l', K = K' + 1 ∧ Ext (labAt S.ns) S.ns.length q (bsK (labAt S.ns q) K') (szK K') f' l' ∧ 2 ^ K' < l' - f' + 1) := by
      rcases hprev with ⟨e, _, _⟩ | ⟨K', e, hE, hlt⟩
      · exact .inl e
      · exact .inr ⟨K', f, l, e, hE, hlt⟩
    clear hprev
    obtain ⟨pw, hpww⟩ : ∃ pw, pw = 2 ^ K := ⟨_, rfl⟩
    rw [← hpww] at hpw hpw1 hpw2
    have Hpw : Hid (pw = 2 ^ K) := hpww
    clear hpww
    obtain ⟨bs, hbs⟩ : ∃ bs, bs = bsK (labAt S.ns q) K := ⟨_, rfl⟩
    obtain ⟨sz, hszz⟩ : ∃ sz, sz = szK K := ⟨_, rfl⟩
    rw [← hbs] at hbs1 hbs2 hlow hhigh
    rw [← hszz] at hsz hszb hbs2 hx1 hx2 hhigh
    have Hbs : Hid (bs = bsK (labAt S.ns q) K) := hbs
    have Hsz : Hid (sz = szK K) := hszz
    obtain ⟨hszb1, hszb2⟩ := hszb
    clear hbs hszz
    go_wp2
    go_loop [5, 7] (fun x c => ∃ f1 : Nat, x = .pointer (prevOf pb S.ns f1) ∧ c = .int .i64 ((l - f1 + 1 : Nat) : Int) ∧ 1 ≤ f1 ∧ f1 ≤ f ∧ Hid (∀ c, f1 ≤ c → c ≤ q → bs ≤ labAt S.ns c)) (fun _ c => S.ns.length + 2 - (intOf c).toNat)
    case atStart => exact ⟨f, rfl, by simp, hf1, Nat.le_refl _, hlow⟩
    case round =>
      obtain ⟨f1, rfl, rfl, hf3, hf4, hlow1⟩ := hrel
      obtain ⟨g, rfl⟩ : ∃ g, f1 = g + 1 := ⟨f1 - 1, by omega⟩
      obtain ⟨b1, o1, hb1, -, -, hp1, -⟩ := HL.out.place (c := g + 1) (by omega)
      obtain ⟨b2, o2, hb2, ht2, hlab2, -⟩ := HL.out.place (c := g) (by omega)
      simp only [backOf] at hp1
      rw [hb2] at hp1
      rw [hb1]
      have HB2 : Hid (prevOf pb S.ns g = some ⟨b2, o2, none⟩) := hb2
      have HB1 : Hid (prevOf pb S.ns (g + 1) = some ⟨b1, o1, none⟩) := hb1
      clear hb1 hb2
      by_cases hgo : 1 ≤ g ∧ bs ≤ labAt S.ns g
      · obtain ⟨hg1, hg2⟩ := hgo
        have ht : ((tagAt S.ns g : Int) != 0) = true := by have := HT.out g hg1 (by omega); rw [bne_iff_ne]; omega
        go_wp2
        go_round
        case rel =>
          refine ⟨g, by rw [HB2.out], ?_, hg1, by omega, ?_⟩
          · have : l - g = l - (g + 1) + 1 := by omega
            rw [this]; go_num
          · intro c h1 h2
            by_cases e : c = g
            · subst e; exact hg2
            · exact hlow1.out c (by omega) h2
        case measure => simp [intOf]; omega
      · have hout : Hid (g + 1 = 1 ∨ labAt S.ns (g + 1 - 1) < bs) := by
          by_cases e : g = 0
          · exact .inl (by omega)
          · refine .inr ?_
            rw [Nat.add_sub_cancel]
            apply Nat.lt_of_not_le
            exact fun hh => hgo ⟨by omega, hh⟩
        have hcase : g = 0 ∨ (1 ≤ g ∧ labAt S.ns g < bs) := by omega
        clear hgo
        rcases hcase with e | ⟨hg1, hg2⟩
        · have ht : ((tagAt S.ns g : Int) != 0) = false := by subst e; rfl
          have E : Hid (g = 0) := e
          clear e
          go_wp2
          go_loop [6, 7] (fun y c => ∃ l1 : Nat, y = .pointer (prevOf pb S.ns l1) ∧ c = .int .i64 ((l1 - (g + 1) + 1 : Nat) : Int) ∧ l ≤ l1 ∧ l1 ≤ S.ns.length ∧ Hid (∀ c, q + 2 ≤ c → c ≤ l1 → labAt S.ns c < bs + sz)) (fun _ c => S.ns.length + 2 - (intOf c).toNat)
          case atStart => exact ⟨l, rfl, by simp, Nat.le_refl _, hl2, hhigh⟩
          case round =>
            obtain ⟨l1, rfl, rfl, hl3, hl4, hhigh1⟩ := hrel
            obtain ⟨b3, o3, hb3, -, -, -, hn3, -⟩ := HL.out.place (c := l1) (by omega)
            rw [hb3]
            have HB3 : Hid (prevOf pb S.ns l1 = some ⟨b3, o3, none⟩) := hb3
            clear hb3
            by_cases hnil : l1 = S.ns.length
            · have hn4 : ptrN S.ns l1 = none := by simp [ptrN, hnil]
              rw [hn4] at hn3
              have hpast : Hid (l1 = S.ns.length ∨ bs + sz ≤ labAt S.ns (l1 + 1)) := .inl hnil
              clear hnil hn4
              have HE : Hid (Ext (labAt S.ns) S.ns.length q bs sz (g + 1) l1) := ⟨by omega, by omega, by omega, hl4, hlow1.out, hout.out, hhigh1.out, hpast.out⟩
              obtain ⟨cnt, hcnt⟩ : ∃ cnt, cnt = l1 - (g + 1) + 1 := ⟨_, rfl⟩
              have hcast : ((l1 - (g + 1) : Nat) : Int) + 1 = (cnt : Int) := by omega
              have hcb : cnt ≤ 8192 := by omega
              have Hcnt : Hid (cnt = l1 - (g + 1) + 1) := hcnt
              clear hcnt
              by_cases hfit : cnt ≤ pw
              · have hst : IntKind.u64.wrap ((sz : Int) / ((cnt : Int) + 1)) = ((sz / (cnt + 1) : Nat) : Int) := wrap_step (by omega)
                have hm := step_mul sz cnt
                have hresp := respace_any w pb S g cnt bs (sz / (cnt + 1)) HL.out (by have := Hcnt.out; omega) (by omega) (by have := Nat.div_le_self sz (cnt + 1); omega) (by omega) (by omega) (by have := Hcnt.out; omega)
                rw [show ptrN S.ns g = some ⟨b1, o1, none⟩ from HB1.out] at hresp
                clear hm
                go_wp2_with fail
                first | rw [hst] | skip
                refine hresp.mono ?_
                rintro e w' ⟨rfl, hL', hT'⟩
                have HF : Hid (Found S q w' pb) := by
                  have hcc := Hcnt.out
                  refine ⟨K, g + 1, l1, hK, by rw [← Hbs.out, ← Hsz.out]; exact HE.out, by rw [← Hpw.out, ← hcc]; exact hfit, Hprev.out, ?_⟩
                  rw [← hcc, ← Hbs.out, ← Hsz.out, Nat.add_sub_cancel]
                  exact hL'
                have HT' : Hid (Turn (Own pb S) w w') := hT'
                clear hL' hT'
                go_wp2
                (try simp only [Exit.inBlock, Exit.then])
                exact bodyPost_ret (results_none rfl _ _ _) rfl ⟨rfl, HF.out, HT'.out⟩
              · go_wp2
                go_round
                case rel =>
                  have hcc := Hcnt.out
                  refine ⟨g + 1, l1, K + 1, by rw [HB1.out], by rw [HB3.out], by first | rfl | rw [hcc], by go_num, by omega, by omega, by omega, hl4, ?_, .inr ⟨K, rfl, ?_, by rw [← Hpw.out]; omega⟩⟩
                  · apply Nat.lt_of_not_le
                    intro h13
                    have : K = 13 := by omega
                    have h8 := Hpw.out
                    rw [this] at h8
                    omega
                  · rw [← Hbs.out, ← Hsz.out]; exact HE.out
                case measure => simp [intOf]; omega
            · obtain ⟨b4, o4, hb4, -, hl4', -⟩ := HL.out.place (c := l1 + 1) (by omega)
              have hn4 : ptrN S.ns l1 = some ⟨b4, o4, none⟩ := hb4
              rw [hn4] at hn3
              have hup := HU.out (l1 + 1) (by omega) (by omega)
              have hlb := HX.out (l1 + 1) (by omega) (by omega)
              have HB4 : Hid (prevOf pb S.ns (l1 + 1) = some ⟨b4, o4, none⟩) := hb4
              clear hn4 hb4
              by_cases hlt : labAt S.ns (l1 + 1) < bs + sz
              · go_wp2
                go_round
                case rel =>
                  refine ⟨l1 + 1, by rw [HB4.out], ?_, by omega, by omega, ?_⟩
                  · have : l1 + 1 - (g + 1) = l1 - (g + 1) + 1 := by omega
                    rw [this]; go_num
                  · intro c h1 h2
                    by_cases e : c = l1 + 1
                    · subst e; exact hlt
                    · exact hhigh1.out c h1 (by omega)
                case measure => simp [intOf]; omega
              · have hpast : Hid (l1 = S.ns.length ∨ bs + sz ≤ labAt S.ns (l1 + 1)) := .inr (by omega)
                have HE : Hid (Ext (labAt S.ns) S.ns.length q bs sz (g + 1) l1) := ⟨by omega, by omega, by omega, hl4, hlow1.out, hout.out, hhigh1.out, hpast.out⟩
                obtain ⟨cnt, hcnt⟩ : ∃ cnt, cnt = l1 - (g + 1) + 1 := ⟨_, rfl⟩
                have hcast : ((l1 - (g + 1) : Nat) : Int) + 1 = (cnt : Int) := by omega
                have hcb : cnt ≤ 8192 := by omega
                have Hcnt : Hid (cnt = l1 - (g + 1) + 1) := hcnt
                clear hcnt
                by_cases hfit : cnt ≤ pw
                · have hst : IntKind.u64.wrap ((sz : Int) / ((cnt : Int) + 1)) = ((sz / (cnt + 1) : Nat) : Int) := wrap_step (by omega)
                  have hm := step_mul sz cnt
                  have hresp := respace_any w pb S g cnt bs (sz / (cnt + 1)) HL.out (by have := Hcnt.out; omega) (by omega) (by have := Nat.div_le_self sz (cnt + 1); omega) (by omega) (by omega) (by have := Hcnt.out; omega)
                  rw [show ptrN S.ns g = some ⟨b1, o1, none⟩ from HB1.out] at hresp
                  clear hm
                  go_wp2_with fail
                  first | rw [hst] | skip
                  refine hresp.mono ?_
                  rintro e w' ⟨rfl, hL', hT'⟩
                  have HF : Hid (Found S q w' pb) := by
                    have hcc := Hcnt.out
                    refine ⟨K, g + 1, l1, hK, by rw [← Hbs.out, ← Hsz.out]; exact HE.out, by rw [← Hpw.out, ← hcc]; exact hfit, Hprev.out, ?_⟩
                    rw [← hcc, ← Hbs.out, ← Hsz.out, Nat.add_sub_cancel]
                    exact hL'
                  have HT' : Hid (Turn (Own pb S) w w') := hT'
                  clear hL' hT'
                  go_wp2
                  (try simp only [Exit.inBlock, Exit.then])
                  exact bodyPost_ret (results_none rfl _ _ _) rfl ⟨rfl, HF.out, HT'.out⟩
                · go_wp2
                  go_round
                  case rel =>
                    have hcc := Hcnt.out
                    refine ⟨g + 1, l1, K + 1, by rw [HB1.out], by rw [HB3.out], by first | rfl | rw [hcc], by go_num, by omega, by omega, by omega, hl4, ?_, .inr ⟨K, rfl, ?_, by rw [← Hpw.out]; omega⟩⟩
                    · apply Nat.lt_of_not_le
                      intro h13
                      have : K = 13 := by omega
                      have h8 := Hpw.out
                      rw [this] at h8
                      omega
                    · rw [← Hbs.out, ← Hsz.out]; exact HE.out
                  case measure => simp [intOf]; omega
        · have ht : ((tagAt S.ns g : Int) != 0) = true := by have := HT.out g hg1 (by omega); rw [bne_iff_ne]; omega
          go_wp2
          go_loop [6, 7] (fun y c => ∃ l1 : Nat, y = .pointer (prevOf pb S.ns l1) ∧ c = .int .i64 ((l1 - (g + 1) + 1 : Nat) : Int) ∧ l ≤ l1 ∧ l1 ≤ S.ns.length ∧ Hid (∀ c, q + 2 ≤ c → c ≤ l1 → labAt S.ns c < bs + sz)) (fun _ c => S.ns.length + 2 - (intOf c).toNat)
          case atStart => exact ⟨l, rfl, by simp, Nat.le_refl _, hl2, hhigh⟩
          case round =>
            obtain ⟨l1, rfl, rfl, hl3, hl4, hhigh1⟩ := hrel
            obtain ⟨b3, o3, hb3, -, -, -, hn3, -⟩ := HL.out.place (c := l1) (by omega)
            rw [hb3]
            have HB3 : Hid (prevOf pb S.ns l1 = some ⟨b3, o3, none⟩) := hb3
            clear hb3
            by_cases hnil : l1 = S.ns.length
            · have hn4 : ptrN S.ns l1 = none := by simp [ptrN, hnil]
              rw [hn4] at hn3
              have hpast : Hid (l1 = S.ns.length ∨ bs + sz ≤ labAt S.ns (l1 + 1)) := .inl hnil
              clear hnil hn4
              have HE : Hid (Ext (labAt S.ns) S.ns.length q bs sz (g + 1) l1) := ⟨by omega, by omega, by omega, hl4, hlow1.out, hout.out, hhigh1.out, hpast.out⟩
              obtain ⟨cnt, hcnt⟩ : ∃ cnt, cnt = l1 - (g + 1) + 1 := ⟨_, rfl⟩
              have hcast : ((l1 - (g + 1) : Nat) : Int) + 1 = (cnt : Int) := by omega
              have hcb : cnt ≤ 8192 := by omega
              have Hcnt : Hid (cnt = l1 - (g + 1) + 1) := hcnt
              clear hcnt
              by_cases hfit : cnt ≤ pw
              · have hst : IntKind.u64.wrap ((sz : Int) / ((cnt : Int) + 1)) = ((sz / (cnt + 1) : Nat) : Int) := wrap_step (by omega)
                have hm := step_mul sz cnt
                have hresp := respace_any w pb S g cnt bs (sz / (cnt + 1)) HL.out (by have := Hcnt.out; omega) (by omega) (by have := Nat.div_le_self sz (cnt + 1); omega) (by omega) (by omega) (by have := Hcnt.out; omega)
                rw [show ptrN S.ns g = some ⟨b1, o1, none⟩ from HB1.out] at hresp
                clear hm
                go_wp2_with fail
                first | rw [hst] | skip
                refine hresp.mono ?_
                rintro e w' ⟨rfl, hL', hT'⟩
                have HF : Hid (Found S q w' pb) := by
                  have hcc := Hcnt.out
                  refine ⟨K, g + 1, l1, hK, by rw [← Hbs.out, ← Hsz.out]; exact HE.out, by rw [← Hpw.out, ← hcc]; exact hfit, Hprev.out, ?_⟩
                  rw [← hcc, ← Hbs.out, ← Hsz.out, Nat.add_sub_cancel]
                  exact hL'
                have HT' : Hid (Turn (Own pb S) w w') := hT'
                clear hL' hT'
                go_wp2
                (try simp only [Exit.inBlock, Exit.then])
                exact bodyPost_ret (results_none rfl _ _ _) rfl ⟨rfl, HF.out, HT'.out⟩
              · go_wp2
                go_round
                case rel =>
                  have hcc := Hcnt.out
                  refine ⟨g + 1, l1, K + 1, by rw [HB1.out], by rw [HB3.out], by first | rfl | rw [hcc], by go_num, by omega, by omega, by omega, hl4, ?_, .inr ⟨K, rfl, ?_, by rw [← Hpw.out]; omega⟩⟩
                  · apply Nat.lt_of_not_le
                    intro h13
                    have : K = 13 := by omega
                    have h8 := Hpw.out
                    rw [this] at h8
                    omega
                  · rw [← Hbs.out, ← Hsz.out]; exact HE.out
                case measure => simp [intOf]; omega
            · obtain ⟨b4, o4, hb4, -, hl4', -⟩ := HL.out.place (c := l1 + 1) (by omega)
              have hn4 : ptrN S.ns l1 = some ⟨b4, o4, none⟩ := hb4
              rw [hn4] at hn3
              have hup := HU.out (l1 + 1) (by omega) (by omega)
              have hlb := HX.out (l1 + 1) (by omega) (by omega)
              have HB4 : Hid (prevOf pb S.ns (l1 + 1) = some ⟨b4, o4, none⟩) := hb4
              clear hn4 hb4
              by_cases hlt : labAt S.ns (l1 + 1) < bs + sz
              · go_wp2
                go_round
                case rel =>
                  refine ⟨l1 + 1, by rw [HB4.out], ?_, by omega, by omega, ?_⟩
                  · have : l1 + 1 - (g + 1) = l1 - (g + 1) + 1 := by omega
                    rw [this]; go_num
                  · intro c h1 h2
                    by_cases e : c = l1 + 1
                    · subst e; exact hlt
                    · exact hhigh1.out c h1 (by omega)
                case measure => simp [intOf]; omega
              · have hpast : Hid (l1 = S.ns.length ∨ bs + sz ≤ labAt S.ns (l1 + 1)) := .inr (by omega)
                have HE : Hid (Ext (labAt S.ns) S.ns.length q bs sz (g + 1) l1) := ⟨by omega, by omega, by omega, hl4, hlow1.out, hout.out, hhigh1.out, hpast.out⟩
                obtain ⟨cnt, hcnt⟩ : ∃ cnt, cnt = l1 - (g + 1) + 1 := ⟨_, rfl⟩
                have hcast : ((l1 - (g + 1) : Nat) : Int) + 1 = (cnt : Int) := by omega
                have hcb : cnt ≤ 8192 := by omega
                have Hcnt : Hid (cnt = l1 - (g + 1) + 1) := hcnt
                clear hcnt
                by_cases hfit : cnt ≤ pw
                · have hst : IntKind.u64.wrap ((sz : Int) / ((cnt : Int) + 1)) = ((sz / (cnt + 1) : Nat) : Int) := wrap_step (by omega)
                  have hm := step_mul sz cnt
                  have hresp := respace_any w pb S g cnt bs (sz / (cnt + 1)) HL.out (by have := Hcnt.out; omega) (by omega) (by have := Nat.div_le_self sz (cnt + 1); omega) (by omega) (by omega) (by have := Hcnt.out; omega)
                  rw [show ptrN S.ns g = some ⟨b1, o1, none⟩ from HB1.out] at hresp
                  clear hm
                  go_wp2_with fail
                  first | rw [hst] | skip
                  refine hresp.mono ?_
                  rintro e w' ⟨rfl, hL', hT'⟩
                  have HF : Hid (Found S q w' pb) := by
                    have hcc := Hcnt.out
                    refine ⟨K, g + 1, l1, hK, by rw [← Hbs.out, ← Hsz.out]; exact HE.out, by rw [← Hpw.out, ← hcc]; exact hfit, Hprev.out, ?_⟩
                    rw [← hcc, ← Hbs.out, ← Hsz.out, Nat.add_sub_cancel]
                    exact hL'
                  have HT' : Hid (Turn (Own pb S) w w') := hT'
                  clear hL' hT'
                  go_wp2
                  (try simp only [Exit.inBlock, Exit.then])
                  exact bodyPost_ret (results_none rfl _ _ _) rfl ⟨rfl, HF.out, HT'.out⟩
                · go_wp2
                  go_round
                  case rel =>
                    have hcc := Hcnt.out
                    refine ⟨g + 1, l1, K + 1, by rw [HB1.out], by rw [HB3.out], by first | rfl | rw [hcc], by go_num, by omega, by omega, by omega, hl4, ?_, .inr ⟨K, rfl, ?_, by rw [← Hpw.out]; omega⟩⟩
                    · apply Nat.lt_of_not_le
                      intro h13
                      have : K = 13 := by omega
                      have h8 := Hpw.out
                      rw [this] at h8
                      omega
                    · rw [← Hbs.out, ← Hsz.out]; exact HE.out
                  case measure => simp [intOf]; omega

end Go.Proofs.Ytkppcnednfjbhaa
