/- OrderedTexts' walk: a list of texts by their lengths, held against the texts that were kept. -/
import Derived.Test.YtiggpbjgnododaaStx
namespace Go.Proofs.Ytiggpbjgnododaa.S
open Go.RowKit Go.Shelf
set_option linter.unusedVariables false

/-- Under way: the list, and the texts that were kept in a row of their own. -/
structure TxSt (w wr : World) (db : Nat) (K P : List ByteArray) (ka : Option Addr) (kc : Nat) (a : Option Addr) (cap : Nat) (ed : Int) : Prop where
  list : LAt wr w.heap.size db 31 #[] P a cap false ed
  kept : wr.ownsRow w.heap.size 9 1 (.slice ka K.length kc) K.length (cellsOf K)
  apart : ∀ k, (Value.slice ka K.length kc).ownBlock = some k → ¬ OwnL db (.slice a P.length cap) k
  new : w.heap.size ≤ db
  bel : Below w.heap.size w wr

theorem TxSt.below {w wr w2 : World} {db : Nat} {K P : List ByteArray} {ka : Option Addr} {kc : Nat} {a : Option Addr} {cap : Nat} {ed : Int} (h : TxSt w wr db K P ka kc a cap ed) (hb : Below wr.heap.size wr w2) : TxSt w w2 db K P ka kc a cap ed :=
  ⟨h.list.below hb, own_of_block h.kept (fun k hk => hb.block k (own_block_lt h.kept k hk).2), h.apart, h.new, h.bel.trans (hb.mono h.bel.size)⟩

/-- One more kept. -/
theorem TxSt.app {w wr w2 : World} {db : Nat} {K P : List ByteArray} {ka ka' : Option Addr} {kc kc' : Nat} {a : Option Addr} {cap : Nat} {ed : Int} (h : TxSt w wr db K P ka kc a cap ed) (x : ByteArray) (o : Obj)
    (h1 : w2.ownsRow w.heap.size 9 1 (.slice ka' (K.length + 1) kc') (K.length + 1) (cellsOf K ++ [.string x])) (h2 : (wr.alloc o).grownBy w2 (Value.slice ka K.length kc).ownBlock)
    (h3 : (Value.slice ka' (K.length + 1) kc').ownBlock = (Value.slice ka K.length kc).ownBlock ∨ (Value.slice ka' (K.length + 1) kc').ownBlock = some (wr.alloc o).heap.size) : TxSt w w2 db (K ++ [x]) P ka' kc' a cap ed := by
  have hs := h2.size
  simp at hs
  have hbl := h.bel.size
  have hdl := h.list.head.lt
  have far : ∀ k, k < wr.heap.size → (Value.slice ka K.length kc).ownBlock ≠ some k → w2.heap[k]? = wr.heap[k]? := fun k hk hne => (h2.block k (by simp; omega) (fun e => hne e.symm)).trans (Below.heap_alloc _ _ _ hk)
  refine ⟨⟨h.list.head.of_block (far db hdl (fun e => h.apart db e (.inl rfl))), own_of_block h.list.row (fun k hk => far k (own_block_lt h.list.row k hk).2 (fun e => h.apart k e (.inr hk))), h.list.ne, h.list.len⟩, ?_, ?_, h.new, ?_⟩
  · simpa [cellsOf] using h1
  · intro k hk
    simp only [List.length_append, List.length_singleton] at hk
    rcases h3 with e | e
    · rw [e] at hk
      exact h.apart k hk
    · rw [e] at hk
      simp at hk
      rintro (e' | e')
      · omega
      · have := (own_block_lt h.list.row k e').2
        omega
  · exact ⟨h2.os.trans h.bel.os, h2.tape.trans h.bel.tape, h2.output.trans h.bel.output, by omega, fun k hk => (far k (by omega) (fun e => by have := (own_block_lt h.kept k e).1; omega)).trans (h.bel.block k hk)⟩

/-- Behind a Put. -/
theorem TxSt.put {w wr w2 : World} {db : Nat} {K P P' : List ByteArray} {ka : Option Addr} {kc : Nat} {a a' : Option Addr} {cap cap' : Nat} {ed ed' : Int} (h : TxSt w wr db K P ka kc a cap ed)
    (h1 : LAt w2 w.heap.size db 31 #[] P' a' cap' false ed') (h2 : Turn (OwnL db (.slice a P.length cap)) wr w2) (h3 : ∀ k, (Value.slice a' P'.length cap').ownBlock = some k → OwnL db (.slice a P.length cap) k ∨ wr.heap.size ≤ k) : TxSt w w2 db K P' ka kc a' cap' ed' := by
  refine ⟨h1, own_of_block h.kept (fun k hk => h2.block k (own_block_lt h.kept k hk).2 (h.apart k hk)), ?_, h.new, ?_⟩
  · intro k hk
    have hl := (own_block_lt h.kept k hk).2
    rintro (e | e)
    · exact h.apart k hk (.inl e)
    · rcases h3 k e with h' | h'
      · exact h.apart k hk h'
      · omega
  · refine h.bel.trans (h2.below h.bel.size ?_)
    rintro k (e | e)
    · rw [e]; exact h.new
    · exact (own_block_lt h.list.row k e).1

theorem bel_drewN {B : Nat} {a w : World} (h : Below B a w) (n : Nat) : Below B a (w.drewN n) := ⟨h.os, h.tape, h.output, h.size, h.block⟩

/-- Texts that came in. -/
def Strs (w : World) (a : Option Addr) (l : List ByteArray) : Prop := ∀ i y, l[i]? = some y → ∃ b off, a = some ⟨b, off, none⟩ ∧ b < w.heap.size ∧ w.cell? ⟨b, off + i, none⟩ = some (.string y)

/-- Whether one of that length was kept. -/
def keptB (K : List ByteArray) (x : ByteArray) : Bool := K.any fun y => decide ((y.size : Int) = (x.size : Int))

theorem keptB_snoc (K : List ByteArray) (y x : ByteArray) : keptB (K ++ [y]) x = (keptB K x || decide ((y.size : Int) = (x.size : Int))) := by simp [keptB]
theorem keptB_iff {K P : List ByteArray} (h : P.Perm K) (x : ByteArray) : keptB K x = true ↔ ∃ y ∈ P, szK y = szK x := by
  simp only [keptB, List.any_eq_true, decide_eq_true_eq, szK]
  constructor
  · rintro ⟨y, h1, h2⟩
    exact ⟨y, h.mem_iff.2 h1, h2⟩
  · rintro ⟨y, h1, h2⟩
    exact ⟨y, h.mem_iff.1 h1, h2⟩

theorem take_snoc {l : List ByteArray} {j : Nat} {y : ByteArray} (h : l[j]? = some y) : l.take (j + 1) = l.take j ++ [y] := by
  obtain ⟨h1, h2⟩ := List.getElem?_eq_some_iff.1 h
  rw [List.take_succ_eq_append_getElem h1, h2]

theorem rk_snoc (K : List ByteArray) (y : ByteArray) (x : Int) : rk szK (K ++ [y]) x = rk szK K x + if szK y < x then 1 else 0 := by
  simp only [rk, List.filter_append, List.length_append]
  congr 1
  by_cases h : szK y < x <;> simp [h]

set_option maxRecDepth 100000 in
set_option maxHeartbeats 4000000 in
theorem texts_walk (a0 : Option Addr) (cap0 : Nat) (l : List ByteArray) (w : World) (hl : Strs w a0 l) (hll : l.length ≤ 8796093022208) :
    Calls Try.prog 7 #[.slice a0 l.length cap0] w fun e w' => e = .returned (.bool true) ∧ Below w.heap.size w w' := by
  have hnew := new_any w 31 #[]
  have HL : Hid (Strs w a0 l) := hl
  have hlm : (l.length : Int) ≤ 8796093022208 := by omega
  have h31 : ∀ (w : World), (Operand.func 31) = Operand.func 31 := fun _ => rfl
  clear hl h31
  go_enter Try.func7, Try.ntmps7
  go_wp2_with fail
  refine hnew.mono ?_
  rintro e w1 ⟨rfl, rfl⟩
  clear hnew
  have S0 : Hid (TxSt w ((w.alloc (.cells #[.func (.func 31) #[] #[], .slice none 0 0, .bool false, .int .u64 0] 112)).alloc (.cells #[] 9)) w.heap.size [] [] (some ⟨w.heap.size + 1, 0, none⟩) 0 none 0 0) := by
    have hl := LAt.new w 31 w.heap.size #[]
    have hb : Below w.heap.size w (w.alloc (.cells #[.func (.func 31) #[] #[], .slice none 0 0, .bool false, .int .u64 0] 112)) := (Below.refl _ _).alloc (Nat.le_refl _) _
    refine ⟨hl.below ((Below.refl _ _).alloc (Nat.le_refl _) _), ?_, ?_, Nat.le_refl _, hb.alloc (by simp) _⟩
    · have := own_new (w.alloc (.cells #[.func (.func 31) #[] #[], .slice none 0 0, .bool false, .int .u64 0] 112)) 9 1
      have h2 := own_base this (base' := w.heap.size) (fun k hk => by simp [Value.ownBlock] at hk; omega)
      simpa [cellsOf] using h2
    · intro k hk
      simp [Value.ownBlock] at hk
      rintro (e | e)
      · omega
      · simp [Value.ownBlock] at e
  go_wp2
  go_loopw [5, 6] (fun kv i wr => ∃ (j : Nat) (K P : List ByteArray) (ka : Option Addr) (kc : Nat) (a : Option Addr) (cap : Nat) (ed : Int), j ≤ l.length ∧ i = .int .i64 (j : Int) ∧ kv = .slice ka K.length kc ∧ Hid (P.Perm K) ∧ Hid (Rise szK P) ∧ Hid (TxSt w wr w.heap.size K P ka kc a cap ed)) (fun _ i _ => l.length - (intOf i).toNat)
  case atStart => exact ⟨0, [], [], _, 0, none, 0, 0, Nat.zero_le _, rfl, rfl, List.Perm.refl _, List.Pairwise.nil, S0⟩
  case round =>
    obtain ⟨j, K, P, ka, kc, a, cap, ed, hj, rfl, rfl, hP, hR, hS⟩ := hrel
    clear S0
    by_cases hlt : j < l.length
    · obtain ⟨b, off, rfl, hbl, hcx⟩ := HL.out j _ (List.getElem?_eq_getElem hlt)
      generalize l[j] = x at *
      have hj1 : (j : Int) < (l.length : Int) := by omega
      have hj2 : (0 : Int) ≤ (j : Int) := by omega
      have hK8 : K.length ≤ 8192 := by have := hS.out.list.len; have := hP.out.length_eq; omega
      have hK9 : (K.length : Int) ≤ 8192 := by omega
      go_wp2
      go_loopw [7, 8] (fun th k wr' => ∃ (m : Nat), m ≤ K.length ∧ k = .int .i64 (m : Int) ∧ th = .bool (keptB (K.take m) x) ∧ Hid (TxSt w wr' w.heap.size K P ka kc a cap ed)) (fun _ k _ => K.length - (intOf k).toNat)
      case atStart => exact ⟨0, Nat.zero_le _, rfl, rfl, hS⟩
      case round =>
        obtain ⟨m, hm, rfl, rfl, hS'⟩ := hrel
        clear hS
        have hcx' : wr.cell? ⟨b, off + j, none⟩ = some (.string x) := (hS'.out.bel.cell (p := ⟨b, off + j, none⟩) hbl).trans hcx
        by_cases hmt : m < K.length
        · obtain ⟨-, -, hrow⟩ := row_cell hS'.out.kept
          obtain ⟨kg, rfl, hk1, hk2, hk3⟩ := hrow m (.string K[m]) (by simp [cellsOf, hmt])
          have hsn : Hid (keptB (K.take (m + 1)) x = (keptB (K.take m) x || decide ((K[m].size : Int) = (x.size : Int)))) := by
            show _ = _
            rw [take_snoc (List.getElem?_eq_getElem hmt), keptB_snoc]
          generalize K[m] = y at *
          have hm1 : (m : Int) < (K.length : Int) := by omega
          have hm2 : (0 : Int) ≤ (m : Int) := by omega
          clear hrow
          cases hkb : keptB (K.take m) x with
          | true =>
            rw [hkb] at hsn
            go_wp2
            go_quiet (fail)
            go_wp2
            go_roundw
            case rel => exact ⟨m + 1, by omega, by go_num, by rw [hsn.out]; rfl, hS'.out.below (bel_drewN (Below.refl _ _) _)⟩
            case measure => simp [intOf]; omega
          | false =>
            rw [hkb] at hsn
            go_wp2
            go_quiet (fail)
            go_wp2
            go_roundw
            case rel => exact ⟨m + 1, by omega, by go_num, by rw [hsn.out]; exact v_bool (by rw [Bool.eq_iff_iff]; simp), hS'.out.below (bel_drewN (Below.refl _ _) _)⟩
            case measure => simp [intOf]; omega
        · obtain rfl : m = K.length := by omega
          rw [List.take_length]
          have hput := fun W (K' : List ByteArray) (ka' : Option Addr) (kc' : Nat) (h : TxSt w W w.heap.size K' P ka' kc' a cap ed) => put_any W w.heap.size w.heap.size 31 #[] P a cap ed (ltK szK) (fun _ => True) x (rk szK P (szK x)) h.list h.bel.size (less_is W) trivial (fun _ _ => trivial) (cut_of hR.out x)
          have hth := there_iff hR.out x
          have hkb := keptB_iff hP.out x
          cases hkx : keptB K x with
          | true =>
            have htt : thereB (ltK szK) P x (rk szK P (szK x)) = true := hth.2 (hkb.1 hkx)
            have e1 : putE (ltK szK) P x (rk szK P (szK x)) = 70 := by simp [putE, htt]
            have e2 : putL (ltK szK) P x (rk szK P (szK x)) = P := by simp [putL, htt]
            rw [e1, e2] at hput
            have hp := hput wr K ka kc hS'.out
            clear hput hth hkb htt e1 e2
            go_wp2_with fail
            refine hp.mono ?_
            rintro e w2 ⟨rfl, a', cap', ed', h1, h2, h3⟩
            have S2 : Hid (TxSt w w2 w.heap.size K P ka kc a' cap' ed') := hS'.out.put h1 h2 h3
            clear h1 h2 h3 hp
            go_wp2
            go_roundw
            case rel => exact ⟨j + 1, K, P, ka, kc, a', cap', ed', by omega, by go_num, rfl, hP, hR, S2⟩
            case measure => simp [intOf]; omega
          | false =>
            have htt : thereB (ltK szK) P x (rk szK P (szK x)) = false := by
              cases h : thereB (ltK szK) P x (rk szK P (szK x)) with
              | false => rfl
              | true => rw [hkb.2 (hth.1 h)] at hkx; cases hkx
            have hnot : ¬ ∃ y ∈ P, szK y = szK x := fun h => by rw [hkb.2 h] at hkx; cases hkx
            have hpl := hP.out.length_eq
            by_cases h8 : 8192 ≤ K.length
            · have e1 : putE (ltK szK) P x (rk szK P (szK x)) = 2 := by simp [putE, htt, hpl, h8]
              have e2 : putL (ltK szK) P x (rk szK P (szK x)) = P := by simp [putL, htt, hpl, h8]
              rw [e1, e2] at hput
              have hp := hput wr K ka kc hS'.out
              have h8' : (8192 : Int) ≤ (K.length : Int) := by omega
              clear hput hth hkb htt e1 e2 hnot hpl
              go_wp2_with fail
              refine hp.mono ?_
              rintro e w2 ⟨rfl, a', cap', ed', h1, h2, h3⟩
              have S2 : Hid (TxSt w w2 w.heap.size K P ka kc a' cap' ed') := hS'.out.put h1 h2 h3
              clear h1 h2 h3 hp
              go_wp2
              go_roundw
              case rel => exact ⟨j + 1, K, P, ka, kc, a', cap', ed', by omega, by go_num, rfl, hP, hR, S2⟩
              case measure => simp [intOf]; omega
            · have e1 : putE (ltK szK) P x (rk szK P (szK x)) = 0 := by simp [putE, htt, hpl, h8]
              have e2 : putL (ltK szK) P x (rk szK P (szK x)) = P.take (rk szK P (szK x)) ++ [x] ++ P.drop (rk szK P (szK x)) := by simp only [putL, htt, hpl, h8]; simp
              rw [e1, e2] at hput
              have HP2 : Hid ((P.take (rk szK P (szK x)) ++ [x] ++ P.drop (rk szK P (szK x))).Perm (K ++ [x])) := ((put_perm P _ x).trans (hP.out.cons x)).trans (List.perm_append_comm (l₁ := [x]) (l₂ := K))
              have HR2 : Hid (Rise szK (P.take (rk szK P (szK x)) ++ [x] ++ P.drop (rk szK P (szK x)))) := rise_put szK hR.out x hnot
              have Hput : Hid _ := hput
              have h8' : (K.length : Int) < 8192 := by omega
              have hbz := hS'.out.bel.size
              clear hput hth hkb htt e1 e2 hnot hpl
              generalize P.take (rk szK P (szK x)) ++ [x] ++ P.drop (rk szK P (szK x)) = P2 at *
              go_wp2_with (first
                | (at_builtin; refine wpList_app rfl _ _ rfl Try.underlying69 infoE rfl (by decide) w.heap.size _ K.length (cellsOf K) rfl (hS'.out.kept.alloc _) _ 1 1 [.string x] rfl rfl (fun j u hu => ⟨_, rfl, cell_one_new _ _ _ j u hu⟩) (by intro u hu; simp at hu; subst hu; rfl) (by unfold maxLen; omega) (by omega) (by simp; omega) ?_; intro v' w2 k1 k2 k3 k4; obtain ⟨ka', kc', rfl⟩ := own_slice k1; have hcx2 : w2.cell? ⟨b, off + j, none⟩ = some (.string x) := ((hS'.out.app x _ k1 k2 k4).bel.cell (p := ⟨b, off + j, none⟩) hbl).trans hcx; have S1 : Hid (TxSt w w2 w.heap.size (K ++ [x]) P ka' kc' a cap ed) := hS'.out.app x _ k1 k2 k4; clear k1 k2 k3 k4 hS' hcx'))
              refine (Hput.out w2 (K ++ [x]) ka' kc' S1.out).mono ?_
              rintro e w3 ⟨rfl, a', cap', ed', h1, h2, h3⟩
              have S2 : Hid (TxSt w w3 w.heap.size (K ++ [x]) P2 ka' kc' a' cap' ed') := S1.out.put h1 h2 h3
              clear h1 h2 h3 Hput S1
              go_wp2
              go_roundw
              case rel => exact ⟨j + 1, K ++ [x], P2, ka', kc', a', cap', ed', by omega, by go_num, by simp, HP2, HR2, S2⟩
              case measure => simp [intOf]; omega
    · have hK8 : K.length ≤ 8192 := by have := hS.out.list.len; have := hP.out.length_eq; omega
      have hK9 : (K.length : Int) ≤ 8192 := by omega
      clear HL
      go_wp2
      clear hlt
      go_loopw [10] (fun k wr' => ∃ (m : Nat), m ≤ K.length ∧ k = .int .i64 (m : Int) ∧ Hid (TxSt w wr' w.heap.size K P ka kc a cap ed)) (fun k _ => K.length - (intOf k).toNat)
      case atStart => exact ⟨0, Nat.zero_le _, rfl, hS⟩
      case round =>
        obtain ⟨m, hm, rfl, hS'⟩ := hrel
        clear hS
        by_cases hmt : m < K.length
        · have hym : K[m] ∈ K := List.getElem_mem _
          have hyc : (cellsOf K)[m]? = some (.string K[m]) := by simp [cellsOf, hmt]
          generalize K[m] = y at *
          have hm1 : (m : Int) < (K.length : Int) := by omega
          have hm2 : (0 : Int) ≤ (m : Int) := by omega
          go_wp2
          go_loopw [11, 12] (fun n i wr' => ∃ (q : Nat), q ≤ K.length ∧ i = .int .i64 (q : Int) ∧ n = .int .i64 (rk szK (K.take q) (szK y) : Int) ∧ Hid (TxSt w wr' w.heap.size K P ka kc a cap ed)) (fun _ i _ => K.length - (intOf i).toNat)
          case atStart => exact ⟨0, Nat.zero_le _, rfl, rfl, hS'⟩
          case round =>
            obtain ⟨q, hq, rfl, rfl, hS2⟩ := hrel
            clear hS'
            obtain ⟨-, -, hrow⟩ := row_cell hS2.out.kept
            obtain ⟨kg, rfl, hk1, hk2, hk3⟩ := hrow m _ hyc
            by_cases hqt : q < K.length
            · obtain ⟨kg', e, -, -, hk4⟩ := hrow q (.string K[q]) (by simp [cellsOf, hqt])
              cases e
              have hsn : Hid (rk szK (K.take (q + 1)) (szK y) = rk szK (K.take q) (szK y) + if szK K[q] < szK y then 1 else 0) := by
                show _ = _
                rw [take_snoc (List.getElem?_eq_getElem hqt), rk_snoc]
              have hrl : rk szK (K.take q) (szK y) ≤ 8192 := by have := rk_le szK (K.take q) (szK y); simp at this; omega
              generalize K[q] = z at *
              generalize hrq : rk szK (K.take q) (szK y) = r at *
              have hrl' : (r : Int) ≤ 8192 := by omega
              have hq1 : (q : Int) < (K.length : Int) := by omega
              have hq2 : (0 : Int) ≤ (q : Int) := by omega
              clear hrow
              by_cases hzy : z.size < y.size
              · have hd : decide ((z.size : Int) < (y.size : Int)) = true := by simp; omega
                have hz1 : Hid (rk szK (K.take (q + 1)) (szK y) = r + 1) := by
                  show _ = _
                  rw [hsn.out, if_pos (by unfold szK; omega)]
                clear hsn hrq
                go_wp2
                go_quiet (fail)
                go_wp2
                go_roundw
                case rel => exact ⟨q + 1, by omega, by go_num, by rw [hz1.out]; go_num, hS2.out.below (bel_drewN (Below.refl _ _) _)⟩
                case measure => simp [intOf]; omega
              · have hd : decide ((z.size : Int) < (y.size : Int)) = false := by simp; omega
                have hz1 : Hid (rk szK (K.take (q + 1)) (szK y) = r) := by
                  show _ = _
                  rw [hsn.out, if_neg (by unfold szK; omega)]; rfl
                clear hsn hrq
                go_wp2
                go_quiet (fail)
                go_wp2
                go_roundw
                case rel => exact ⟨q + 1, by omega, by go_num, by rw [hz1.out], hS2.out.below (bel_drewN (Below.refl _ _) _)⟩
                case measure => simp [intOf]; omega
            · obtain rfl : q = K.length := by omega
              rw [List.take_length]
              have hrp : rk szK K (szK y) = rk szK P (szK y) := (rk_perm szK hP.out (szK y)).symm
              rw [hrp]
              have hyP : y ∈ P := hP.out.mem_iff.2 hym
              have hat := at_some wr w.heap.size w.heap.size 31 #[] P a cap false ed (rk szK P (szK y)) y hS2.out.list (rise_at szK hR.out hyP)
              have hrank := rank_any wr w.heap.size w.heap.size 31 #[] P a cap false ed (ltK szK) (fun _ => True) y (rk szK P (szK y)) hS2.out.list (less_is wr) trivial (fun _ _ => trivial) (cut_of hR.out y)
              have hhas := fun W (h : TxSt w W w.heap.size K P (some ⟨kg, 0, none⟩) kc a cap ed) => has_any W w.heap.size w.heap.size 31 #[] P a cap false ed (ltK szK) (fun _ => True) y (rk szK P (szK y)) h.list (less_is W) trivial (fun _ _ => trivial) (cut_of hR.out y)
              have htt : thereB (ltK szK) P y (rk szK P (szK y)) = true := (there_iff hR.out y).2 ⟨y, hyP, rfl⟩
              rw [htt] at hhas
              have hrl : rk szK P (szK y) ≤ 8192 := by have := rk_le szK P (szK y); have := hP.out.length_eq; omega
              clear hrp hyP htt hrow
              generalize rk szK P (szK y) = r at *
              have hrl' : (r : Int) ≤ 8192 := by omega
              go_wp2_with fail
              refine hat.mono ?_
              rintro e w2 ⟨rfl, rfl⟩
              clear hat
              have tok1 : True := trivial
              have tok2 : True := trivial
              go_wp2_with (first
                | (go_at_call 34; have _t := tok1; refine hrank.mono ?_; rintro e w3 ⟨rfl, hb3⟩; have hk5 : w3.cell? ⟨kg, m, none⟩ = some (.string y) := (hb3.cell (p := ⟨kg, m, none⟩) hk2).trans hk3; have S3 : Hid (TxSt w w3 w.heap.size K P (some ⟨kg, 0, none⟩) kc a cap ed) := hS2.out.below hb3; clear hb3 hrank tok1 _t)
                | (go_at_call 35; have _t := tok2; refine (hhas _ S3.out).mono ?_; rintro e w4 ⟨rfl, hb4⟩; have S4 : Hid (TxSt w w4 w.heap.size K P (some ⟨kg, 0, none⟩) kc a cap ed) := S3.out.below hb4; clear hb4 hhas tok2 _t))
              exact ⟨⟨m + 1, by omega, by go_num, S4⟩, by simp [intOf]; omega⟩
        · have hlen := len_any wr w.heap.size w.heap.size 31 #[] P a cap false ed hS'.out.list
          rw [hP.out.length_eq] at hlen
          go_wp2_with fail
          refine hlen.mono ?_
          rintro e w2 ⟨rfl, rfl⟩
          clear hlen
          go_wp2
          go_ret
          exact ⟨congrArg _ (v_bool (by simp)), hS'.out.bel⟩

end Go.Proofs.Ytiggpbjgnododaa.S
