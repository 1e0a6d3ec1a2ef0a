/- TagsFull's walk. -/
import Derived.Test.YtkppcnednfjbhaaFacts
namespace Go.Proofs.Ytkppcnednfjbhaa
open Go.RowKit Go.Maps

def newSt : St := { mb := none, ns := [], given := 0, writes := 0 }

theorem has_new (w : World) : Has (w.alloc (.cells #[.map none, .int .u64 0, .int .u64 0, .pointer none, .pointer none, .int .u64 0, .int .u64 0] 31)) w.heap.size newSt [] 0 :=
  ⟨⟨isCells_new w _ 31, fun i n hi => by simp [newSt] at hi, by simp [newSt], ⟨fun t => rfl, rfl⟩⟩, good_empty _ rfl rfl rfl, rfl, rfl⟩

theorem own_new {pb k : Nat} (h : Own pb newSt k) : k = pb := by
  rcases h with h | h | ⟨n, hn, _⟩
  · exact h
  · simp [newSt] at h
  · simp [newSt] at hn

set_option maxRecDepth 100000 in
set_option maxHeartbeats 1000000 in
theorem full_walk (st gs : Nat) (hst : st < 65536) (hgs : gs < 65536) (w : World) :
    Calls Try.prog 6 #[.int .u16 (st : Int), .int .u16 (gs : Int)] w fun e w' => e = .returned (.bool true) ∧ Below w.heap.size w w' := by
  go_enter Try.func6, Try.ntmps6
  go_wp2
  go_loopw [7] (fun i wr => ∃ (k : Nat) (S : St) (T : List Nat), k ≤ 8192 ∧ i = .int .i64 (k : Int) ∧ Has wr w.heap.size S T k ∧ T.length = k ∧ (∀ t, 1 ≤ t → t ≤ k → t ∈ T) ∧ (∀ n, Own w.heap.size S n → w.heap.size ≤ n) ∧ Below w.heap.size w wr) (fun i _ => 8192 - (intOf i).toNat)
  case atStart => exact ⟨0, newSt, [], by omega, rfl, has_new w, rfl, by omega, fun n hn => Nat.le_of_eq (own_new hn).symm, (Below.refl _ _).alloc (Nat.le_refl _) _⟩
  case round =>
    obtain ⟨k, S, T, hk, rfl, hH, hTl, hT, hO, hB⟩ := hrel
    by_cases hlt : k < 8192
    · have hle : st * k ≤ 65535 * 8192 := Nat.mul_le_mul (by omega) (by omega)
      obtain ⟨pr, hpr⟩ : ∃ pr, pr = st * k := ⟨_, rfl⟩
      have hmul : IntKind.u64.wrap ((st : Int) * (k : Int)) = (pr : Int) := by
        have e : (st : Int) * (k : Int) = ((st * k : Nat) : Int) := by simp
        rw [e, ← hpr]
        rw [← hpr] at hle
        simp only [IntKind.wrap_u64]
        omega
      have hmod : st * k % (k + 1) < k + 1 := Nat.mod_lt _ (by omega)
      obtain ⟨c, hc⟩ := pos_of_mem (T := T) (t := st * k % (k + 1)) (by
        by_cases e : st * k % (k + 1) = 0
        · exact .inl e
        · exact .inr (hT _ (by omega) (by omega)))
      have hafter := after_has wr w.heap.size S T k (st * k % (k + 1)) hH (by omega) (by omega)
      have e1 : afterAns T k (st * k % (k + 1)) = (k + 1, 0) := by simp only [afterAns, hc]; rw [if_neg (by omega)]
      have e2 : afterT T k (st * k % (k + 1)) = ins c (k + 1) T := by simp only [afterT, hc]; rw [if_neg (by omega)]
      have e3 : afterG T k (st * k % (k + 1)) = k + 1 := by simp only [afterG, hc]; rw [if_neg (by omega)]
      rw [e1, e2, e3] at hafter
      have HT : Hid (∀ t, 1 ≤ t → t ≤ k → t ∈ T) := hT
      have HO : Hid (∀ n, Own w.heap.size S n → w.heap.size ≤ n) := hO
      have HB : Hid (Below w.heap.size w wr) := hB
      have HTl : Hid (T.length = k) := hTl
      have hne : (((k : Int) + 1) != ((k : Int) + 1)) = false := by simp
      clear hT hO hB e1 e2 e3 hTl hH hmod hc
      go_wp2_with fail
      rw [show ((st : Int) * (k : Int) % ((k : Int) + 1)) = ((st * k % (k + 1) : Nat) : Int) from by simp]
      refine hafter.mono ?_
      rintro e w1 ⟨rfl, S', hH', hTn, hOw⟩
      have HH : Hid (Has w1 w.heap.size S' (ins c (k + 1) T) (k + 1)) := hH'
      have HTn : Hid (Turn (Own w.heap.size S) wr w1) := hTn
      have HOw : Hid (∀ k, Own w.heap.size S' k → Own w.heap.size S k ∨ wr.heap.size ≤ k) := hOw
      clear hH' hTn hOw hafter
      go_wp2
      go_roundw
      case rel =>
        refine ⟨k + 1, S', ins c (k + 1) T, by omega, by go_num, HH.out, by rw [ins_length, HTl.out], ?_, ?_, ?_⟩
        · intro t h1 h2
          rw [mem_ins]
          by_cases e : t = k + 1
          · exact .inl e
          · exact .inr (HT.out t h1 (by omega))
        · intro n hn
          rcases HOw.out n hn with h1 | h1
          · exact HO.out n h1
          · exact Nat.le_trans HB.out.size h1
        · exact HB.out.trans (HTn.out.below HB.out.size HO.out)
      case measure => simp [intOf]; omega
    · have hk2 : k = 8192 := by omega
      subst hk2
      have hafter := after_has wr w.heap.size S T 8192 0 hH (by omega) (by omega)
      have e1 : afterAns T 8192 0 = (0, 11) := by simp only [afterAns, pos, if_true]; rw [if_pos (by omega)]
      have e2 : afterT T 8192 0 = T := by simp only [afterT, pos, if_true]; rw [if_pos (by omega)]
      have e3 : afterG T 8192 0 = 8192 := by simp only [afterG, pos, if_true]; rw [if_pos (by omega)]
      rw [e1, e2, e3] at hafter
      have HT : Hid (∀ t, 1 ≤ t → t ≤ 8192 → t ∈ T) := hT
      have HO : Hid (∀ n, Own w.heap.size S n → w.heap.size ≤ n) := hO
      have HB : Hid (Below w.heap.size w wr) := hB
      have HTl : Hid (T.length = 8192) := hTl
      clear hT hO hB e1 e2 e3 hTl hH hk hlt
      go_wp2_with fail
      refine hafter.mono ?_
      rintro e w1 ⟨rfl, S1, hH1, hTn, hOw⟩
      have HO1 : Hid (∀ n, Own w.heap.size S1 n → w.heap.size ≤ n) := by
        intro n hn
        rcases hOw n hn with h1 | h1
        · exact HO.out n h1
        · exact Nat.le_trans HB.out.size h1
      have HB1 : Hid (Below w.heap.size w w1) := HB.out.trans (hTn.below HB.out.size HO.out)
      have hnext := hH1.next (t := 0) (by omega)
      have e1 : nextAns T 0 = (tg T 1, 0) := by simp [nextAns, pos]
      rw [e1] at hnext
      have HH1 : Hid (Has w1 w.heap.size S1 T 8192) := hH1
      clear hOw hTn hafter hH1 e1 HO HB
      go_wp2_with fail
      refine hnext.mono ?_
      rintro e w2 ⟨rfl, rfl⟩
      clear hnext
      go_wp2_with fail
      go_loop [6, 12, 13] (fun last n t => ∃ j : Nat, j ≤ 8192 ∧ last = .int .u64 ((labAt S1.ns j : Nat) : Int) ∧ n = .int .i64 (j : Int) ∧ t = .int .u64 ((tg T (j + 1) : Nat) : Int)) (fun _ n _ => 8193 - (intOf n).toNat)
      case atStart => exact ⟨0, by omega, rfl, rfl, rfl⟩
      case round =>
        obtain ⟨j, hj, rfl, rfl, rfl⟩ := hrel
        by_cases hlt : j < 8192
        · have hne := tg_ne (T := T) (fun t ht => HH1.out.ne ht) (c := j + 1) (by omega) (by have := HTl.out; omega)
          have hpos := pos_tg (T := T) HH1.out.nodup (fun t ht => HH1.out.ne ht) (c := j + 1) (by have := HTl.out; omega)
          have hmem := HH1.out.mem ((tg_mem (T := T) (c := j + 1)).resolve_left hne)
          have hlab := HH1.out.label (t := tg T (j + 1)) (by omega) hpos
          have hnext := HH1.out.next (t := tg T (j + 1)) (by omega)
          have e1 : nextAns T (tg T (j + 1)) = (tg T (j + 1 + 1), 0) := by simp only [nextAns, hpos]
          rw [e1] at hnext
          have hr1 := HH1.out.good.fine.rise j (j + 1) (by omega) (by rw [HH1.out.len, HTl.out]; omega)
          have hr2 := HH1.out.good.fine.low (j + 1) (by rw [HH1.out.len, HTl.out]; omega)
          have hb : (((tg T (j + 1) : Nat) : Int) != 0) = true := by rw [bne_iff_ne]; omega
          clear e1 hpos hmem hne
          generalize labAt S1.ns j = x at *
          generalize hyy : labAt S1.ns (j + 1) = y at *
          have Hyy : Hid (labAt S1.ns (j + 1) = y) := hyy
          clear hyy
          go_wp2_with fail
          refine hlab.mono ?_
          rintro e w2 ⟨rfl, rfl⟩
          go_wp2_with fail
          refine hnext.mono ?_
          rintro e w2 ⟨rfl, rfl⟩
          go_wp2
          go_round
          case rel => exact ⟨j + 1, by omega, by rw [Hyy.out], by go_num, rfl⟩
          case measure => simp [intOf]; omega
        · have hj2 : j = 8192 := by omega
          subst hj2
          have hz : tg T (8192 + 1) = 0 := tg_out (by have := HTl.out; omega)
          rw [hz]
          obtain ⟨q, hq⟩ : ∃ q, q = gs % 8192 + 1 := ⟨_, rfl⟩
          have hqb : 1 ≤ q ∧ q ≤ 8192 := by omega
          have hqm : q ∈ T := HT.out q hqb.1 hqb.2
          obtain ⟨d, hd⟩ := pos_of_mem (T := T) (t := q) (.inr hqm)
          obtain ⟨c, rfl, hcq⟩ : ∃ c, d = c + 1 ∧ T[c]? = some q := by
            rcases pos_some_iff hd with ⟨e, _⟩ | h
            · omega
            · exact h
          have hcl := (List.getElem?_eq_some_iff.1 hcq).1
          have hdrop := drop_has w2 w.heap.size S1 T 8192 q HH1.out (by omega)
          have e1 : dropAns T q = 0 := by simp only [dropAns, hd]
          have e2 : dropT T q = del c T := by simp only [dropT, hd]
          rw [e1, e2] at hdrop
          have hgone : Hid (q ∉ del c T) := by
            intro hm
            have h1 : ins c q (del c T) = T := by
              apply List.ext_getElem?
              intro j
              rw [ins_get q (by rw [del_length hcl]; omega), del_get (by omega), del_get (by omega)]
              by_cases h1 : j < c
              · rw [if_pos h1, if_pos h1]
              · rw [if_neg h1]
                by_cases h2 : j = c
                · rw [if_pos h2, h2, hcq]
                · rw [if_neg h2, if_neg (by omega), show j - 1 + 1 = j from by omega]
            have h2 := HH1.out.nodup
            rw [← h1] at h2
            have h3 : (q :: (del c T)).Nodup := by
              have := (List.perm_middle (a := q) (l₁ := (del c T).take c) (l₂ := (del c T).drop c)).nodup_iff.1 h2
              rw [List.take_append_drop] at this
              exact this
            exact (List.nodup_cons.1 h3).1 hm
          have hqe : ((gs : Int) % 8192 + 1) = (q : Int) := by omega
          have Hdl : Hid ((del c T).length = 8191) := by
            have := del_length hcl
            have h2 := HTl.out
            show _ = _
            omega
          have Hq1 : Hid (1 ≤ q ∧ q ≤ 8192) := hqb
          clear hd hcq hqm e1 e2 hz hcl hq hj hlt
          obtain ⟨hqb1, hqb2⟩ := hqb
          go_wp2_with fail
          refine hdrop.mono ?_
          rintro e w3 ⟨rfl, S2, hH2, hT2, hO2, -, -⟩
          have HO2 : Hid (∀ n, Own w.heap.size S2 n → w.heap.size ≤ n) := fun n hn => HO1.out n (hO2 n hn)
          have HB2 : Hid (Below w.heap.size w w3) := HB1.out.trans (hT2.below HB1.out.size HO1.out)
          have hdrop2 := drop_has w3 w.heap.size S2 (del c T) 8192 q hH2 (by omega)
          have e1 : pos (del c T) q = none := pos_none_of (by omega) hgone.out
          have e2 : dropAns (del c T) q = 10 := by simp only [dropAns, e1]
          have e3 : dropT (del c T) q = del c T := by simp only [dropT, e1]
          rw [e2, e3] at hdrop2
          clear hdrop hH2 hT2 hO2 e1 e2 e3 HO1 HB1 HH1
          go_wp2_with fail
          refine hdrop2.mono ?_
          rintro e w4 ⟨rfl, S3, hH3, hT3, hO3, -, -⟩
          have HO3 : Hid (∀ n, Own w.heap.size S3 n → w.heap.size ≤ n) := fun n hn => HO2.out n (hO3 n hn)
          have HB3 : Hid (Below w.heap.size w w4) := HB2.out.trans (hT3.below HB2.out.size HO2.out)
          have hafter := after_has w4 w.heap.size S3 (del c T) 8192 0 hH3 (by omega) (by omega)
          have e1 : afterAns (del c T) 8192 0 = (8193, 0) := by
            have := Hdl.out
            simp only [afterAns, pos, if_true]; rw [if_neg (by omega)]
          have e2 : afterT (del c T) 8192 0 = ins 0 8193 (del c T) := by
            have := Hdl.out
            simp only [afterT, pos, if_true]; rw [if_neg (by omega)]
          have e3 : afterG (del c T) 8192 0 = 8193 := by
            have := Hdl.out
            simp only [afterG, pos, if_true]; rw [if_neg (by omega)]
          rw [e1, e2, e3] at hafter
          clear hdrop2 hH3 hT3 hO3 e1 e2 e3 HO2 HB2
          go_wp2_with fail
          refine hafter.mono ?_
          rintro e w5 ⟨rfl, S4, hH4, hT4, -⟩
          have HB4 : Hid (Below w.heap.size w w5) := HB3.out.trans (hT4.below HB3.out.size HO3.out)
          have hlen := hH4.lenC
          rw [ins_length, Hdl.out] at hlen
          have hwrites := hH4.writesC
          have hgiven := hH4.givenC
          have hwb := hH4.good.writes
          rw [hH4.given] at hwb
          have hwb' : (S4.writes : Int) ≤ 4063728 := by omega
          clear hH4 hT4 hafter HO3 HB3
          go_wp2_with fail
          refine hlen.mono ?_
          rintro e w6 ⟨rfl, rfl⟩
          go_wp2_with fail
          refine hwrites.mono ?_
          rintro e w7 ⟨rfl, rfl⟩
          go_wp2_with fail
          refine hgiven.mono ?_
          rintro e w8 ⟨rfl, rfl⟩
          go_wp2
          go_ret
          exact ⟨rfl, HB4.out⟩

end Go.Proofs.Ytkppcnednfjbhaa
