/- normal and Normal: the normal form of a forest, made by the program. -/
import Derived.Test.YtmifejkddgcbmaaGreatC03
namespace Go.Proofs.YtmifejkddgcbmaaGreat
open Go.RowKit
set_option linter.unusedVariables false
set_option linter.unusedSimpArgs false

/-- What normal tells. -/
def NrPost (w : World) {m : Nat} (r : Option (List (T m))) (e : Ending) (w' : World) : Prop := Below w.heap.size w w' ∧ match r with
  | none => e = .returned (.tuple #[.slice none 0 0, .bool false])
  | some N => ∃ a cap, e = .returned (.tuple #[.slice a N.length cap, .bool true]) ∧ Tc.KidsAt w' w.heap.size w'.heap.size m a N ∧ N.length ≤ cap ∧ N.length ≤ 4096
def NrmAll (n : Nat) : Prop := ∀ (m : Nat) (w : World) (lo : Nat) (ka : Option Addr) (L : List (T n)) (cap : Nat), Tc.KidsAt w lo w.heap.size n ka L → (∀ t ∈ L, okD n m t) → (L.map (cnt n)).sum ≤ 4096 → Calls Tryz.prog 29 #[.slice ka L.length cap] w (NrPost w (nrm n m L))

theorem nrm_nil (n m : Nat) : nrm n m [] = some [] := by
  cases n with
  | zero => rfl
  | succ n => cases m with
    | zero => rfl
    | succ m => rfl

set_option maxRecDepth 100000 in
set_option maxHeartbeats 2000000 in
theorem normal_nil (n m : Nat) (w : World) (ka : Option Addr) (cap : Nat) : Calls Tryz.prog 29 #[.slice ka 0 cap] w (NrPost w (nrm n m [])) := by
  rw [nrm_nil]
  go_enter Tryz.func29, Tryz.ntmps29
  go_wp2
  refine wp_loop_rounds 1 ?_
  rw [rounds_succ]
  go_wp2
  go_ret2
  exact ⟨Below.refl _ _, none, 0, rfl, fun i k hk => by simp at hk, Nat.le_refl _, by simp⟩

theorem len_cnt {n : Nat} : ∀ (L : List (T (n + 1))), L.length ≤ (L.map (cnt (n + 1))).sum
  | [] => Nat.zero_le _
  | t :: r => by
    have := len_cnt r
    have := cnt_pos t
    simp only [List.length_cons, List.map_cons, List.sum_cons]
    omega
theorem cnt_mem {n : Nat} : ∀ {L : List (T n)} {k : T n}, k ∈ L → cnt n k ≤ (L.map (cnt n)).sum
  | [], k, h => by simp at h
  | t :: r, k, h => by
    simp only [List.map_cons, List.sum_cons]
    rcases List.mem_cons.1 h with rfl | h
    · omega
    · have := cnt_mem h
      omega
theorem normG_at {α β : Type} {step : List β → α → Option (List β)} {L : List α} {i : Nat} {k : α} {out : List β} (h : L[i]? = some k) : normG step (L.drop i) out = (step out k).bind (normG step (L.drop (i + 1))) := by
  have hlt := (List.getElem?_eq_some_iff.1 h).1
  rw [List.drop_eq_getElem_cons hlt, (List.getElem?_eq_some_iff.1 h).2, normG]
  cases step out k <;> rfl
theorem normG_end {α β : Type} {step : List β → α → Option (List β)} {L : List α} {out : List β} : normG step (L.drop L.length) out = some out := by
  rw [List.drop_length, normG]
theorem join_len {m : Nat} (N : List (T (m + 1))) (s : ByteArray) : (joinP N s).length ≤ N.length + 1 := by
  by_cases h : s.data.toList = []
  · rw [join_nil h]; omega
  · rcases List.eq_nil_or_concat N with rfl | ⟨A, x, rfl⟩
    · rw [join_first h]; simp
    · simp only [List.concat_eq_append]
      by_cases hx : x.kind = 2
      · rw [join_put h hx]; simp
      · rw [join_snoc h hx]; simp

theorem lastLen_el {m : Nat} (N : List (T (m + 1))) (n : Bs) (a : List Att) (ks : List (T m)) : lastLen (N ++ [(elT n a ks : T (m + 1))]) = 0 := by
  simp only [lastLen, List.getLast?_append, List.getLast?_singleton, Option.some_or]
  rfl

/-- An element as it is built. -/
theorem el_at {wr w2 w3 : World} {m : Nat} {ks : List (T m)} {nm : ByteArray} {al : List (ByteArray × ByteArray)} {a2 a3 : Option Addr} {cap2 cap3 lo : Nat} (hk : Tc.KidsAt w2 lo w2.heap.size m a2 ks) (hlo : wr.heap.size ≤ lo) (hg : w2.grownBy w3 none) (hown : w3.ownsRow wr.heap.size 55 2 (.slice a3 al.length cap3) al.length (attrCells al)) (hal : al.length ≤ maxA) (hks : ks.length ≤ maxK) (hc2 : ks.length ≤ cap2) :
    TreeAt w3 wr.heap.size w3.heap.size (m + 1) #[.int .i64 1, .string nm, .slice a3 al.length cap3, .string ⟨#[]⟩, .slice a2 ks.length cap2] (elT nm.data.toList al ks) := by
  obtain ⟨h1, h2, h3⟩ := attrs_row hown rfl
  refine ⟨a3, cap3, a2, cap2, by show _ = tv 1 (ba nm.data.toList) _ _ _ (ba []) _ _ _; rw [ba_data]; rfl, hal, hks, h3, hc2, (h1.to (R' := fun b => wr.heap.size ≤ b ∧ b < w3.heap.size) (fun b hb => hb.2) (fun b o hb => rfl)).toAt, ?_⟩
  exact (Tc.KidsAt.of_cells hk (fun b o hb1 hb2 => World.cell?_of_block (w := w2) (a := ⟨b, o, none⟩) (hg.block b hb2 (fun e => by cases e)))).mono hlo hg.size

set_option maxRecDepth 100000 in
set_option maxHeartbeats 8000000 in
theorem normal_s (n m : Nat) (ih : NrmAll n) (w : World) (lo : Nat) (ka : Option Addr) (L : List (T (n + 1))) (cap : Nat) (hk : Tc.KidsAt w lo w.heap.size (n + 1) ka L) (hok : ∀ t ∈ L, okD (n + 1) (m + 1) t) (hsm : (L.map (cnt (n + 1))).sum ≤ 4096) :
    Calls Tryz.prog 29 #[.slice ka L.length cap] w (NrPost w (nrm (n + 1) (m + 1) L)) := by
  have HK : Hid (Tc.KidsAt w lo w.heap.size (n + 1) ka L) := hk
  have HOK : Hid (∀ t ∈ L, okD (n + 1) (m + 1) t) := hok
  have HSM : Hid ((L.map (cnt (n + 1))).sum ≤ 4096) := hsm
  have hl : L.length ≤ 4096 := Nat.le_trans (len_cnt L) hsm
  have HIH : Hid (NrmAll n) := ih
  have HR : Hid (nrm (n + 1) (m + 1) L = normG (normStep n m (nrm n m)) (L.drop 0) []) := by show _ = _; rw [nrm, List.drop_zero]
  have HST : Hid (OutSt w w (m + 1) ([] : List (T (m + 1))) ([] : List (T (m + 1))).length none 0 []) := OutSt.nil w _
  clear hk hok hsm ih
  generalize nrm (n + 1) (m + 1) L = r at *
  go_enter Tryz.func29, Tryz.ntmps29
  go_wp2
  go_loopw [4, 12] (fun lv v wr => ∃ (i : Nat) (N : List (T (m + 1))) (la : Option Addr) (lcap : Nat) (xs : List Value), i ≤ L.length ∧ v = .int .i64 (i : Int) ∧ lv = .slice la N.length lcap ∧ N.length ≤ i ∧ Hid (OutSt w wr (m + 1) N N.length la lcap xs) ∧ Hid (lastLen N ≤ 16384) ∧ Hid (r = normG (normStep n m (nrm n m)) (L.drop i) N)) (fun _ v _ => L.length - (intOf v).toNat)
  case atStart => exact ⟨0, [], none, 0, [], Nat.zero_le _, rfl, rfl, Nat.le_refl _, HST, Nat.zero_le _, HR⟩
  case round =>
    obtain ⟨i, N, la, lcap, xs, hi, rfl, rfl, hNi, hst, hla, hr⟩ := hrel
    clear HST HR
    have hbs := hst.out.bel.size
    by_cases hlt : i < L.length
    · have t1 : (i : Int) < (L.length : Int) := by omega
      have t0 : (0 : Int) ≤ (i : Int) := by omega
      obtain ⟨k, hk⟩ : ∃ k, L[i]? = some k := ⟨_, List.getElem?_eq_getElem hlt⟩
      obtain ⟨b, o, kk, nm, aa, al, ac, tx, kA, kl, kc, rfl, -, hbl, c0, c1, c2, c3, c4, hT⟩ := (HK.out.after hst.out.bel).get hk
      obtain ⟨aa', ac', kA', kc', he, hal, hkl, hac, hkc, hat, hkd⟩ := id hT
      simp only [tv, Array.mk.injEq, List.cons.injEq, Value.int.injEq, Value.string.injEq, Value.slice.injEq, true_and, and_true] at he
      obtain ⟨rfl, rfl, ⟨rfl, rfl, rfl⟩, rfl, rfl, rfl, rfl⟩ := he
      have hko := HOK.out k (List.mem_of_getElem? hk)
      have hkc1 := cnt_mem (List.mem_of_getElem? hk)
      have HAT : Hid (AttrsAt wr lo wr.heap.size aa k.attrs) := hat
      have HKD : Hid (Tc.KidsAt wr lo wr.heap.size n kA k.kids) := hkd
      have HRS : Hid (r = (normStep n m (nrm n m) N k).bind (normG (normStep n m (nrm n m)) (L.drop (i + 1)))) := by show r = _; rw [hr.out, normG_at hk]
      obtain ⟨wA, hwA⟩ : ∃ wA, wA = wr.alloc (.cells #[.int .i64 k.kind, .string k.name, .slice aa k.attrs.length ac, .string k.text, .slice kA k.kids.length kc] 40) := ⟨_, rfl⟩
      have hsA : wA.heap.size = wr.heap.size + 1 := by rw [hwA]; simp
      have hbA : Below wr.heap.size wr wA := by rw [hwA]; exact (Below.refl _ _).alloc (Nat.le_refl _) _
      have hbox : IsCells wA wr.heap.size #[.int .i64 k.kind, .string k.name, .slice aa k.attrs.length ac, .string k.text, .slice kA k.kids.length kc] := by rw [hwA]; exact isCells_new wr _ 40
      have HWA : Hid (wA = wr.alloc (.cells #[.int .i64 k.kind, .string k.name, .slice aa k.attrs.length ac, .string k.text, .slice kA k.kids.length kc] 40)) := hwA
      have HBA : Hid (Below wr.heap.size wr wA) := hbA
      have HBX : Hid (IsCells wA wr.heap.size #[.int .i64 k.kind, .string k.name, .slice aa k.attrs.length ac, .string k.text, .slice kA k.kids.length kc]) := hbox
      have d0 : wA.cell? ⟨wr.heap.size, 0, none⟩ = some (.int .i64 k.kind) := hbox.cell 0
      have d3 : wA.cell? ⟨wr.heap.size, 3, none⟩ = some (.string k.text) := hbox.cell 3
      have d4 : wA.cell? ⟨wr.heap.size, 4, none⟩ = some (.slice kA k.kids.length kc) := hbox.cell 4
      clear hwA hbA hbox hat hkd hk hT hr
      go_upto_region 5 with fail
      rw [← HWA.out]
      clear HWA c0 c1 c2 c3 c4
      by_cases h2 : k.kind = 2
      · rw [h2] at d0
        have htx : k.text.size ≤ 16384 := by
          have h := hko.2.1
          unfold ownE at h
          rw [if_neg (by omega), if_pos h2] at h
          have := (tans_ok h).1
          rwa [size_list] at this
        have hjn := join_any w wA N la lcap xs k.text (hst.out.below HBA.out) (by omega) htx hla.out
        have hjl := join_len N k.text
        have HRS2 : Hid (r = if 16384 < lastLen (joinP N k.text) then none else normG (normStep n m (nrm n m)) (L.drop (i + 1)) (joinP N k.text)) := by
          show r = _
          rw [HRS.out, normStep, if_pos h2]
          by_cases hz : 16384 < lastLen (joinP N k.text)
          · rw [if_pos hz, if_pos hz]; rfl
          · rw [if_neg hz, if_neg hz]; rfl
        clear HRS h2 hko hst hla hkc1
        generalize joinP N k.text = M at *
        go_wp2_with fail
        refine hjn.mono ?_
        rintro e w2 ⟨la', lcap', xs', rfl, hst2⟩
        have HST2 : Hid (OutSt w w2 (m + 1) M M.length la' lcap' xs') := hst2
        clear hjn hst2 d0 d3 d4
        rcases List.eq_nil_or_concat M with rfl | ⟨A, x, rfl⟩
        · have HRN : Hid (r = normG (normStep n m (nrm n m)) (L.drop (i + 1)) []) := by
            show r = _
            rw [HRS2.out, if_neg (by simp [lastLen])]
          clear HRS2
          simp only [List.length_nil] at *
          go_wp2
          go_roundw
          case rel => exact ⟨i + 1, [], la', lcap', xs', by omega, by go_num, rfl, by simp, HST2, Nat.zero_le _, HRN⟩
          case measure => simp [intOf]; omega
        · simp only [List.concat_eq_append] at *
          have hlen : (A ++ [x]).length = A.length + 1 := by simp
          have HLE : Hid ((A ++ [x]).length = A.length + 1) := hlen
          have hlast : lastLen (A ++ [x]) = x.text.size := by simp [lastLen]
          rw [hlen] at hjl ⊢
          have HST3 : Hid (OutSt w w2 (m + 1) (A ++ [x]) (A.length + 1) la' lcap' xs') := by rw [← hlen]; exact HST2
          obtain ⟨g, rfl, hg1, hg2, c0, c3, f3⟩ := HST3.out.last
          have i1 : ((A.length + 1 : Nat) : Int) - 1 = (A.length : Int) := by omega
          have i2 : (A.length : Int) < ((A.length + 1 : Nat) : Int) := by omega
          have i3 : (0 : Int) < ((A.length + 1 : Nat) : Int) := by omega
          have i4 : (0 : Int) ≤ (A.length : Int) := by omega
          by_cases hz : 16384 < x.text.size
          · have j1 : (16384 : Int) < (x.text.size : Int) := by omega
            have HRN : Hid (r = none) := by
              show r = _
              rw [HRS2.out, hlast, if_pos hz]
            clear HRS2 hlen hlast HST2 HLE
            go_wp2
            go_ret2
            refine ⟨HST3.out.bel, ?_⟩
            rw [HRN.out]
            rfl
          · have j1 : ¬ (16384 : Int) < (x.text.size : Int) := by omega
            have HRN : Hid (r = normG (normStep n m (nrm n m)) (L.drop (i + 1)) (A ++ [x])) := by
              show r = _
              rw [HRS2.out, hlast, if_neg hz]
            have HLL : Hid (lastLen (A ++ [x]) ≤ 16384) := by show _ ≤ _; rw [hlast]; omega
            clear HRS2 hlen hlast HST3
            go_wp2
            go_roundw
            case rel => exact ⟨i + 1, A ++ [x], _, lcap', xs', by omega, by go_num, by rw [HLE.out], by rw [HLE.out]; omega, HST2, HLL, HRN⟩
            case measure => simp [intOf]; omega
      · have h1 : k.kind = 1 := by
          have h := hko.2.1
          unfold ownE at h
          by_cases h1 : k.kind = 1
          · exact h1
          · rw [if_neg h1, if_neg h2] at h; cases h
        have hkT : kidsT k = k.kids := if_pos h1
        rw [h1] at d0
        have hcall := HIH.out m wA lo kA k.kids kc (HKD.out.after HBA.out) (fun t ht => by
          have := hko.2.2 t (by rw [hkT]; exact ht)
          rwa [Nat.add_sub_cancel] at this) (by
          have e2 : cnt (n + 1) k = 1 + (k.kids.map (cnt n)).sum := by rw [cnt, hkT]
          have := HSM.out
          omega)
        cases hnk : nrm n m k.kids with
        | none =>
          rw [hnk] at hcall
          have HRN : Hid (r = none) := by
            show r = _
            rw [HRS.out, normStep, if_neg h2, hnk]
            rfl
          clear HRS h2 h1 hko hkT hkc1 hnk
          go_wp2_with fail
          refine hcall.mono ?_
          rintro e w2 ⟨hb2, rfl⟩
          have HB2 : Hid (Below w.heap.size w w2) := (hst.out.bel.trans (HBA.out.mono hbs)).trans (hb2.mono (by omega))
          clear hcall hb2
          go_wp2
          go_ret2
          refine ⟨HB2.out, ?_⟩
          rw [HRN.out]
          rfl
        | some ks =>
          rw [hnk] at hcall
          have HRN : Hid (r = normG (normStep n m (nrm n m)) (L.drop (i + 1)) (N ++ [elT k.name.data.toList k.attrs ks])) := by
            show r = _
            rw [HRS.out, normStep, if_neg h2, hnk]
            rfl
          clear HRS h2 h1 hko hkT hkc1 hnk hla
          go_wp2_with fail
          refine hcall.mono ?_
          rintro e w2 ⟨hb2, a2, cap2, rfl, hk2, hc2, hn2⟩
          have HB2 : Hid (Below wr.heap.size wr w2) := HBA.out.trans (hb2.mono (by omega))
          have hs2 : wr.heap.size + 1 ≤ w2.heap.size := by have := hb2.size; omega
          have hx2 : IsCells w2 wr.heap.size #[.int .i64 k.kind, .string k.name, .slice aa k.attrs.length ac, .string k.text, .slice kA k.kids.length kc] := HBX.out.of_block (hb2.block _ (by omega))
          have q1 : w2.cell? ⟨wr.heap.size, 1, none⟩ = some (.string k.name) := hx2.cell 1
          have q2 : w2.cell? ⟨wr.heap.size, 2, none⟩ = some (.slice aa k.attrs.length ac) := hx2.cell 2
          have HX2 : Hid (IsCells w2 wr.heap.size #[.int .i64 k.kind, .string k.name, .slice aa k.attrs.length ac, .string k.text, .slice kA k.kids.length kc]) := hx2
          have HK2 : Hid (Tc.KidsAt w2 wA.heap.size w2.heap.size m a2 ks) := hk2
          have HC2 : Hid (ks.length ≤ cap2 ∧ ks.length ≤ 4096) := ⟨hc2, hn2⟩
          have HSA : Hid (wr.heap.size ≤ wA.heap.size) := by show _ ≤ _; omega
          have HAL : Hid (k.attrs.length ≤ maxA) := hal
          have HN : Hid (∀ j u, (attrCells k.attrs)[j]? = some u → ∃ ad, aa = some ad ∧ w2.cell? (ad.add j) = some u) := (HAT.out.of_cells (fun b o _ hb => HB2.out.cell (p := ⟨b, o, none⟩) hb)).news
          have hal1 : k.attrs.length ≤ 4398046511104 := hal
          clear hcall hb2 hk2 hc2 hn2 hx2 d0 d3 d4 hal
          have tok5 : True := trivial
          have tok6 : True := trivial
          go_wp2_with (first
            | (at_builtin; have _t := tok5; refine wpList_app rfl _ _ rfl Tryz.underlying38 infoA rfl (by decide) wr.heap.size (.slice none 0 0) 0 [] rfl ⟨rfl, .inl ⟨rfl, rfl⟩⟩ aa k.attrs.length ac (attrCells k.attrs) rfl (attrCells_length _) HN.out (attrCells_one _) (by unfold maxLen; omega) (by omega) (by omega) ?_; intro v3 w3 hown3 hg3 _ hat3; obtain ⟨va3, vc3, hv3⟩ := own_slice hown3; subst hv3; rw [Nat.zero_add, List.nil_append] at hown3; rw [Nat.zero_add]; have HB3 : Hid (Below wr.heap.size wr w3) := HB2.out.grown hg3 (by omega) (fun j hj => by cases hj); have HTR : Hid (TreeAt w3 wr.heap.size w3.heap.size (m + 1) #[.int .i64 1, .string k.name, .slice va3 k.attrs.length vc3, .string ⟨#[]⟩, .slice a2 ks.length cap2] (elT k.name.data.toList k.attrs ks)) := el_at HK2.out HSA.out hg3 hown3 HAL.out (by have := HC2.out.2; unfold maxK; omega) HC2.out.1; have hx3 := HX2.out.of_block (hg3.block _ (by omega) (fun e => by cases e)); have p1 : w3.cell? ⟨wr.heap.size, 1, none⟩ = some (.string k.name) := hx3.cell 1; have hs3 : wr.heap.size + 1 ≤ w3.heap.size := Nat.le_trans hs2 hg3.size; clear hown3 hg3 hat3 hx3 tok5 _t)
            | (at_builtin; have _t := tok6; refine wpList_app rfl _ _ rfl Tryz.underlying22 infoT rfl (by decide) w.heap.size (.slice la N.length lcap) N.length xs rfl (own_of_block hst.out.own (fun j hj => (Below.heap_alloc _ _ _ (by have := (own_block_lt hst.out.own j hj).2; omega)).trans (HB3.out.block j (own_block_lt hst.out.own j hj).2))) (some ⟨w3.heap.size, 0, none⟩) 1 1 [.int .i64 1, .string k.name, .slice va3 k.attrs.length vc3, .string ⟨#[]⟩, .slice a2 ks.length cap2] rfl rfl (news_new w3 #[.int .i64 1, .string k.name, .slice va3 k.attrs.length vc3, .string ⟨#[]⟩, .slice a2 ks.length cap2] 40) (tree_one _ _ _ _ _ _ _ _ _) (by unfold maxLen; omega) (by omega) (by simp; omega) ?_; intro v7 w7 hown7 hg7 _ hat7; clear tok6 _t; obtain ⟨la', lcap', hv7⟩ := own_slice hown7; subst hv7; have HST7 : Hid (OutSt w w7 (m + 1) (N ++ [elT k.name.data.toList k.attrs ks]) (N.length + 1) la' lcap' (xs ++ [.int .i64 1, .string k.name, .slice va3 k.attrs.length vc3, .string ⟨#[]⟩, .slice a2 ks.length cap2])) := hst.out.step HTR.out HB3.out hown7 hg7 (by simpa using hat7); clear hown7 hg7 hat7 HTR HB3 hst))
          have HLE : Hid ((N ++ [(elT k.name.data.toList k.attrs ks : T (m + 1))]).length = N.length + 1) := by show _ = _; simp
          have HLL : Hid (lastLen (N ++ [(elT k.name.data.toList k.attrs ks : T (m + 1))]) ≤ 16384) := by show _ ≤ _; rw [lastLen_el]; exact Nat.zero_le _
          go_roundw
          case rel => exact ⟨i + 1, N ++ [elT k.name.data.toList k.attrs ks], la', lcap', _, by omega, by go_num, by rw [HLE.out], by rw [HLE.out]; omega, by rw [HLE.out]; exact HST7, HLL, HRN⟩
          case measure => simp [intOf]; omega
    · have hie : i = L.length := by omega
      subst hie
      have hd := hst.out.done
      have HE : Hid (r = some N) := by show r = _; rw [hr.out, normG_end]
      clear hlt hr
      have t1 : ¬ ((L.length : Nat) : Int) < ((L.length : Nat) : Int) := by omega
      go_wp2
      go_ret2
      refine ⟨hst.out.bel, ?_⟩
      rw [HE.out]
      exact ⟨la, lcap, rfl, hd.1, hd.2, by omega⟩

theorem normal_any : ∀ n, NrmAll n
  | 0 => fun m w lo ka L cap hk hok hs => by
    have hL : L = [] := by
      cases L with
      | nil => rfl
      | cons t r => exact (t : Empty).elim
    subst hL
    exact normal_nil 0 m w ka cap
  | n + 1 => fun m w lo ka L cap hk hok hs => by
    cases m with
    | zero =>
      have hL : L = [] := by
        cases L with
        | nil => rfl
        | cons t r => exact absurd (hok t (by simp)).1 (by omega)
      subst hL
      exact normal_nil (n + 1) 0 w ka cap
    | succ m => exact normal_s n m (normal_any n) w lo ka L cap hk hok hs

end Go.Proofs.YtmifejkddgcbmaaGreat

/- There and back: what is printed is parsed as the normal form; that one printed is the same text. -/
namespace Go.Proofs.YtmifejkddgcbmaaGreat
open Go.RowKit
set_option linter.unusedVariables false
set_option linter.unusedSimpArgs false

/-- What Normal tells. -/
def NmPost (n : Nat) (L : List (T n)) (w : World) (e : Ending) (w' : World) : Prop := ∃ (a : Option Addr) (N : List (T 64)) (cap : Nat) (g : Int), e = .returned (.tuple #[.slice a N.length cap, .int .i64 g]) ∧ (g ≠ 0 → N = []) ∧ Tc.KidsAt w' w.heap.size w'.heap.size 64 a N ∧ N.length ≤ 4096 ∧ (g = 0 → nrm n 64 L = some N) ∧ Below w.heap.size w w'

set_option maxRecDepth 100000 in
set_option maxHeartbeats 4000000 in
theorem Normal_any (n : Nat) (w : World) (lo : Nat) (ka : Option Addr) (L : List (T n)) (cap : Nat) (h : Tc.KidsAt w lo w.heap.size n ka L) (hl : L.length ≤ maxK) : Calls Tryz.prog 15 #[.slice ka L.length cap] w (NmPost n L w) := by
  have hck := check_f n w lo ka L cap h hl
  by_cases h0 : forE n L = 0
  · have hcf : chkF n L = 0 := by
      unfold forE at h0
      split at h0
      · assumption
      · exact h0
    have hsm : (L.map (cnt n)).sum ≤ 4096 := by
      unfold forE at h0
      rw [if_pos hcf] at h0
      by_cases h : 4096 < (L.map (cnt n)).sum
      · rw [if_pos h] at h0; cases h0
      · omega
    have HC : Hid (∀ W, Below w.heap.size w W → Calls Tryz.prog 29 #[.slice ka L.length cap] W (NrPost W (nrm n 64 L))) := fun W hW =>
      normal_any n 64 W lo ka L cap (h.after hW) (fun k hk => chk_okD n k 1 0 (chkF_mem L hcf k hk)) hsm
    rw [h0] at hck
    clear h h0 hcf hsm hl
    cases hr : nrm n 64 L with
    | none =>
      rw [hr] at HC
      have HR : Hid (nrm n 64 L = none) := hr
      clear hr
      go_enter Tryz.func15, Tryz.ntmps15
      go_wp2_with fail
      refine hck.mono ?_
      rintro e w1 ⟨rfl, hb1⟩
      have hc := HC.out w1 hb1
      have HB1 : Hid (Below w.heap.size w w1) := hb1
      have hs1 := hb1.size
      clear hck hb1 HC
      go_wp2_with fail
      refine hc.mono ?_
      rintro e w2 ⟨hb2, rfl⟩
      have HB2 : Hid (Below w.heap.size w w2) := HB1.out.trans (hb2.mono hs1)
      clear hc hb2
      go_wp2
      go_ret2
      exact ⟨none, [], 0, 2, rfl, fun _ => rfl, fun i k hk => by simp at hk, by simp, fun h => (by cases h), HB2.out⟩
    | some N =>
      rw [hr] at HC
      have HR : Hid (nrm n 64 L = some N) := hr
      clear hr
      go_enter Tryz.func15, Tryz.ntmps15
      go_wp2_with fail
      refine hck.mono ?_
      rintro e w1 ⟨rfl, hb1⟩
      have hc := HC.out w1 hb1
      have HB1 : Hid (Below w.heap.size w w1) := hb1
      have hs1 := hb1.size
      clear hck hb1 HC
      go_wp2_with fail
      refine hc.mono ?_
      rintro e w2 ⟨hb2, a2, cap2, rfl, hk2, hc2, hn2⟩
      have HB2 : Hid (Below w.heap.size w w2) := HB1.out.trans (hb2.mono hs1)
      have HK2 : Hid (Tc.KidsAt w2 w.heap.size w2.heap.size 64 a2 N) := hk2.mono hs1 (Nat.le_refl _)
      clear hc hb2 hk2
      go_wp2
      go_ret2
      exact ⟨a2, N, cap2, 0, rfl, fun h => absurd rfl h, HK2.out, hn2, fun _ => HR.out, HB2.out⟩
  · have hb : (forE n L != 0) = true := by simpa using h0
    have H0 : Hid (forE n L ≠ 0) := h0
    clear h h0 hl
    generalize forE n L = z at *
    go_enter Tryz.func15, Tryz.ntmps15
    go_wp2_with fail
    refine hck.mono ?_
    rintro e w1 ⟨rfl, hb1⟩
    go_wp2
    go_ret2
    exact ⟨none, [], 0, z, rfl, fun _ => rfl, fun i k hk => by simp at hk, by simp, fun h => absurd h H0.out, hb1⟩

theorem print_bad {n : Nat} {L : List (T n)} (h : (printP n L).2 ≠ 0) : (printP n L).1 = [] := by
  unfold printP at h ⊢
  by_cases h0 : forE n L = 0
  · rw [if_pos h0] at h ⊢
    by_cases h1 : 262144 < (prF n L).length
    · rw [if_pos h1]
    · rw [if_neg h1] at h; exact absurd rfl h
  · rw [if_neg h0]

set_option maxRecDepth 100000 in
set_option maxHeartbeats 8000000 in
theorem back_walk (n : Nat) (w : World) (ka : Option Addr) (L : List (T n)) (cap : Nat) (h0 : 0 < w.heap.size) (m : Int) (hm : w.cell? ⟨0, 0, none⟩ = some (.int .i64 m)) (hk : Tc.KidsAt w 0 w.heap.size n ka L) (hl : L.length ≤ maxK) :
    Calls Tryz.prog 4 #[.slice ka L.length cap] w fun e w' => e = .returned (.bool true) ∧ Below w.heap.size w w' := by
  have hlv := lives_any w h0 m hm
  have HM : Hid (∀ W, Below w.heap.size w W → W.cell? ⟨0, 0, none⟩ = some (.int .i64 m)) := fun W hW => (hW.cell (p := ⟨0, 0, none⟩) h0).trans hm
  have HK : Hid (Tc.KidsAt w 0 w.heap.size n ka L) := hk
  have HL : Hid (L.length ≤ maxK) := hl
  have HCP : Hid (∀ W, Below w.heap.size w W → Calls Tryz.prog 14 #[.slice ka L.length cap] W fun e w' => ∃ a' cap', e = .returned (.slice a' L.length cap') ∧ Tc.KidsAt w' W.heap.size w'.heap.size n a' L ∧ L.length ≤ cap' ∧ Below W.heap.size W w') := fun W hW => copied_any n W 0 ka L cap (hk.after hW) hl
  clear hm hk hl
  go_enter Tryz.func4, Tryz.ntmps4
  go_wp2_with fail
  refine hlv.mono ?_
  rintro e w1 ⟨rfl, hb1⟩
  have hc1 := HCP.out w1 hb1
  have HB1 : Hid (Below w.heap.size w w1) := hb1
  have hs1 := hb1.size
  clear hlv hb1
  go_wp2_with fail
  refine hc1.mono ?_
  rintro e w2 ⟨a2, cap2, rfl, hk2, -, hb2⟩
  have HB2 : Hid (Below w.heap.size w w2) := HB1.out.trans (hb2.mono hs1)
  have hs2 := HB2.out.size
  have hpr := print_any n w2 w1.heap.size a2 L cap2 hk2 HL.out
  clear hc1 hk2 hb2
  obtain ⟨PS, hPS⟩ : ∃ PS : ByteArray, PS = ⟨(printP n L).1.toArray⟩ := ⟨_, rfl⟩
  obtain ⟨pe, hpe⟩ : ∃ pe : Int, pe = (printP n L).2 := ⟨_, rfl⟩
  rw [← hPS, ← hpe] at hpr
  have HPS : Hid (PS = ⟨(printP n L).1.toArray⟩ ∧ pe = (printP n L).2) := ⟨hPS, hpe⟩
  clear hPS hpe
  go_wp2_with fail
  refine hpr.mono ?_
  rintro e w3 ⟨rfl, hb3⟩
  have HB3 : Hid (Below w.heap.size w w3) := HB2.out.trans (hb3.mono hs2)
  have hs3 := HB3.out.size
  have hc3 := HCP.out w3 HB3.out
  clear hpr hb3
  go_wp2_with fail
  refine hc3.mono ?_
  rintro e w4 ⟨a4, cap4, rfl, hk4, -, hb4⟩
  have HB4 : Hid (Below w.heap.size w w4) := HB3.out.trans (hb4.mono hs3)
  have hs4 := HB4.out.size
  have hnm := Normal_any n w4 w3.heap.size a4 L cap4 hk4 HL.out
  clear hc3 hk4 hb4
  go_wp2_with fail
  refine hnm.mono ?_
  rintro e w5 ⟨a5, N, cap5, g, rfl, hg1, hk5, hn5, hg2, hb5⟩
  have HB5 : Hid (Below w.heap.size w w5) := HB4.out.trans (hb5.mono hs4)
  have hs5 := HB5.out.size
  have HK5 : Hid (Tc.KidsAt w5 w4.heap.size w5.heap.size 64 a5 N) := hk5
  clear hnm hk5 hb5
  by_cases hp0 : pe = 0
  · by_cases hg0 : g = 0
    · subst hg0
      subst hp0
      obtain ⟨b1, b2, b3, b4, b5⟩ := back_plain (n := n) (L := L) (N := N) HPS.out.2.symm (hg2 rfl)
      have hPE : PS = ⟨(prF 64 N).toArray⟩ := by rw [HPS.out.1, b3]
      have HPD : Hid (PS.data.toList = prF 64 N) := by show _ = _; rw [hPE]
      have HN5 : Hid (N.length ≤ maxK) := by show _ ≤ _; unfold maxK; omega
      have HPN : Hid (⟨(printP 64 N).1.toArray⟩ = PS ∧ (printP 64 N).2 = 0) := ⟨by rw [b4, hPE], by rw [b4]⟩
      have hp5 := parse_any w5 PS (by omega) m (HM.out w5 HB5.out)
      rw [HPD.out, b2] at hp5
      have HCN : Hid (Canon 64 N) := b5
      clear hg1 hg2 b1 b2 b3 b4 b5 hPE
      go_wp2_with fail
      refine hp5.mono ?_
      intro e w6 hp6
      obtain ⟨a6, cap6, rfl, hk6, hl6, hb6⟩ := ppost_kids hp6
      have HB56 : Hid (Below w5.heap.size w5 w6) := hb6
      have hs6 := hb6.size
      have HK6 : Hid (Tc.KidsAt w6 0 w6.heap.size 64 a6 N) := hk6
      have hpr6 := print_any 64 w6 w4.heap.size a5 N cap5 (HK5.out.after hb6) HN5.out
      rw [HPN.out.1, HPN.out.2] at hpr6
      clear hp5 hp6 hk6 hl6 hb6
      go_wp2_with fail
      refine hpr6.mono ?_
      rintro e w7 ⟨rfl, hb7⟩
      have HB67 : Hid (Below w6.heap.size w6 w7) := hb7
      have HB57 : Hid (Below w5.heap.size w5 w7) := HB56.out.trans (hb7.mono hs6)
      have hs7 := HB57.out.size
      have hsame := Same_any w7 0 w4.heap.size a6 a5 N cap6 cap5 (HK6.out.after hb7) (HK5.out.after HB57.out) HN5.out
      have n9 : (PS.toList == PS.toList) = true := by simp
      clear hpr6 hb7
      go_wp2_with fail
      refine hsame.mono ?_
      rintro e w8 ⟨rfl, hb8⟩
      have HB58 : Hid (Below w5.heap.size w5 w8) := HB57.out.trans (hb8.mono hs7)
      have hs8 := HB58.out.size
      have hnm8 := norm_all 64 w8 w4.heap.size a5 N cap5 (HK5.out.after HB58.out) HN5.out (fun t ht => (HCN.out.1 t ht).1) HCN.out.2
      clear hsame hb8
      go_wp2_with fail
      refine hnm8.mono ?_
      rintro e w9 ⟨rfl, hb9⟩
      have HB59 : Hid (Below w5.heap.size w5 w9) := HB58.out.trans (hb9.mono hs8)
      clear hnm8 hb9
      go_wp2
      go_ret
      exact ⟨rfl, HB5.out.trans (HB59.out.mono hs5)⟩
    · have hN := hg1 hg0
      subst hN
      subst hp0
      have g1 : (g == 0) = false := beq_eq_false_iff_ne.2 hg0
      have g2 : (g != 0) = true := by simpa using hg0
      clear hg1 hg2 hg0
      simp only [List.length_nil]
      go_wp2
      go_ret
      exact ⟨rfl, HB5.out⟩
  · have hPN : PS = ⟨#[]⟩ := by rw [HPS.out.1, print_bad (by rw [← HPS.out.2]; exact hp0)]
    subst hPN
    have p1 : (pe == 0) = false := beq_eq_false_iff_ne.2 hp0
    have p2 : (pe != 0) = true := by simpa using hp0
    by_cases hg0 : g = 0
    · subst hg0
      clear hp0 hg1 hg2
      go_wp2
      go_ret
      exact ⟨rfl, HB5.out⟩
    · have hN := hg1 hg0
      subst hN
      have g1 : (g == 0) = false := beq_eq_false_iff_ne.2 hg0
      have g2 : (g != 0) = true := by simpa using hg0
      clear hg1 hg2 hg0 hp0
      simp only [List.length_nil]
      go_wp2
      go_ret
      exact ⟨rfl, HB5.out⟩

end Go.Proofs.YtmifejkddgcbmaaGreat
