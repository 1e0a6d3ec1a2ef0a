/- TagsStays' walk: only After changes labels, and Order of any two is what their labels say. -/
import Derived.Test.YtkppcnednfjbhaaStay
import Derived.Test.YtkppcnednfjbhaaActs
namespace Go.Proofs.Ytkppcnednfjbhaa
open Go.RowKit Go.Maps

/-- The order copied into a new row. -/
theorem wpList_copy {W : World} {db g H : Nat} {sl : Option (Nat × Nat)} {T : List Nat} {ops : Array Oper} {rest : List Oper} {o : Oper} {a : Act} {Q : Exit → Act → World → Prop} (hgd : o.guard = none) (s x : Operand)
    (ho : o.op = .call { callee := .builtin .append, args := #[s, x], argTypes := #[33, 33] }) (h : RefAt W db sl T g) (hlen : T.length ≤ 8192) (hs : a.eval s = .slice (some ⟨H, 0, none⟩) 0 0) (hrow : W.ownsRow 0 26 1 (.slice (some ⟨H, 0, none⟩) 0 0) 0 []) (A : Option Addr) (cp : Nat) (hsv : slv T sl = .slice A T.length cp) (hx0 : a.eval x = .slice A T.length cp)
    (hK : ∀ g1 cap1 w', RowIs w' 26 T g1 cap1 → W.grownBy w' (some H) → (g1 = H ∨ g1 = W.heap.size) → wpList Try.prog ops Q rest (a.put o.dst (.slice (some ⟨g1, 0, none⟩) T.length cap1)) w') : wpList Try.prog ops Q (o :: rest) a W := by
  have hx : a.eval x = slv T sl := hx0.trans hsv.symm
  clear hx0 hsv
  refine wpList_plain hgd fun K hK' => ?_
  cases sl with
  | none =>
    have hT : T = [] := h.row
    subst hT
    unfold Oper.wp execOp
    simp only [ho, resolve, invoke, builtin, Sem.run_bind, Sem.run_pure, Result.andThen_ok, List.map_toArray, List.map_cons, List.map_nil, hs, hx, slv, run_put_nil W o.type H 0 0 (Nat.le_refl _)]
    exact hK' _ _ (hK H 0 W (rowIs_of rfl hrow) ⟨rfl, rfl, rfl, Nat.le_refl _, fun _ _ _ => rfl⟩ (.inl rfl))
  | some p =>
    obtain ⟨rb, cap⟩ := p
    obtain ⟨g1, cap1, w', hr, h2, h3, h4⟩ := run_put W o.type H 0 0 [] hrow ⟨rb, 0, none⟩ T.length cap (rowVals T) (by simp [rowVals]) (h.row.part 0 T (fun j x hx => by rw [Nat.zero_add]; exact hx)) (rowVals_one _) (by omega)
    rw [Nat.zero_add] at hr h2
    unfold Oper.wp execOp
    simp only [ho, resolve, invoke, builtin, Sem.run_bind, Sem.run_pure, Result.andThen_ok, List.map_toArray, List.map_cons, List.map_nil, hs, hx, slv, hr]
    exact hK' _ _ (hK g1 cap1 w' (rowIs_of rfl (by simpa using h2)) h3 h4)

/-- Whatever the slice, its length is the order's. -/
theorem slv_shape {w : World} {T : List Nat} {sl : Option (Nat × Nat)} (h : RowAt w T sl) : ∃ A cp, slv T sl = .slice A T.length cp := by
  cases sl with
  | none =>
    have hT : T = [] := h
    subst hT
    exact ⟨none, 0, rfl⟩
  | some p => exact ⟨_, _, rfl⟩

/-- A label more, at the operation. -/
theorem wpList_lab {W : World} {g0 cap0 n x : Nat} {M : List Nat} {ops : Array Oper} {rest : List Oper} {o : Oper} {a : Act} {Q : Exit → Act → World → Prop} (hgd : o.guard = none) (s y : Operand)
    (ho : o.op = .call { callee := .builtin .append, args := #[s, y], argTypes := #[47, 47] }) (hM : M.length = n) (hs : a.eval s = .slice (some ⟨g0, 0, none⟩) n cap0) (hrow : RowIs W 25 M g0 cap0) (ad : Addr) (hx : a.eval y = .slice (some ad) 1 1)
    (hnews : ∀ j u, [(.int .u64 (x : Int) : Value)][j]? = some u → W.cell? (ad.add j) = some u) (h63 : n ≤ 16384)
    (hK : ∀ g1 cap1 w', RowIs w' 25 (M ++ [x]) g1 cap1 → W.grownBy w' (some g0) → (g1 = g0 ∨ g1 = W.heap.size) → wpList Try.prog ops Q rest (a.put o.dst (.slice (some ⟨g1, 0, none⟩) (n + 1) cap1)) w') : wpList Try.prog ops Q (o :: rest) a W := by
  subst hM
  refine wpList_plain hgd fun K hK' => ?_
  obtain ⟨g1, cap1, w', hr, h2, h3, h4⟩ := run_put25 W o.type g0 cap0 x M hrow ad hnews h63
  unfold Oper.wp execOp
  simp only [ho, resolve, invoke, builtin, Sem.run_bind, Sem.run_pure, Result.andThen_ok, List.map_toArray, List.map_cons, List.map_nil, hs, hx, hr]
  exact hK' _ _ (hK g1 cap1 w' h2 h3 h4)

/-- The labels of the first j places. -/
def labs (S : St) (j : Nat) : List Nat := (List.range j).map fun i => labAt S.ns (i + 1)
theorem labs_succ (S : St) (j : Nat) : labs S (j + 1) = labs S j ++ [labAt S.ns (j + 1)] := by simp [labs, List.range_succ]
theorem labs_length (S : St) (j : Nat) : (labs S j).length = j := by simp [labs]
theorem labs_get (S : St) {j i : Nat} (h : i < j) : (labs S j)[i]? = some (labAt S.ns (i + 1)) := by simp [labs, h]

/-- A tag that is still there has the label that it had. -/
theorem lab_same {w w' : World} {pb : Nat} {S S2 : St} {T T2 : List Nat} {g g2 : Nat} (h : Has w pb S T g) (h2 : Has w' pb S2 T2 g2) (hsub : ∀ n ∈ S2.ns, n ∈ S.ns) {i x c : Nat} (hi : T[i]? = some x) (hc : pos T2 x = some c) : labAt S2.ns c = labAt S.ns (i + 1) := by
  have hxm := h.mem (List.mem_of_getElem? hi)
  rcases pos_some_iff hc with ⟨e, _⟩ | ⟨d, rfl, hd⟩
  · omega
  · rw [← h.tags, List.getElem?_map, Option.map_eq_some_iff] at hi
    rw [← h2.tags, List.getElem?_map, Option.map_eq_some_iff] at hd
    obtain ⟨n, hn, e1⟩ := hi
    obtain ⟨n2, hn2, e2⟩ := hd
    obtain ⟨j, hj⟩ := List.getElem?_of_mem (hsub n2 (List.mem_of_getElem? hn2))
    have hb1 := blkOf_at hn h.lies.apart
    have hb2 := blkOf_at hj h.lies.apart
    rw [e1] at hb1
    rw [e2, hb1] at hb2
    have hij := h.lies.index hn hj (Option.some.inj hb2)
    subst hij
    rw [hn] at hj
    cases hj
    simp [labAt, hn, hn2]

theorem order_same {w w' : World} {pb : Nat} {S S2 : St} {T T2 : List Nat} {g g2 : Nat} (h : Has w pb S T g) (h2 : Has w' pb S2 T2 g2) (hsub : ∀ n ∈ S2.ns, n ∈ S.ns) {i k x y c d : Nat} (hik : k < i) (hi : T[i]? = some x) (hk : T[k]? = some y) (hc : pos T2 x = some c) (hd : pos T2 y = some d) : orderAns T2 y x = (-1, 0) := by
  have e1 := lab_same h h2 hsub hi hc
  have e2 := lab_same h h2 hsub hk hd
  have hil := (List.getElem?_eq_some_iff.1 hi).1
  have hr := h.good.fine.rise (k + 1) (i + 1) (by omega) (by rw [h.len]; omega)
  have hs := h2.sgn_eq (pos_le hd) (pos_le hc)
  simp only [orderAns, hc, hd]
  rw [← hs, e1, e2]
  unfold sgn
  rw [if_pos hr]

set_option maxRecDepth 100000 in
set_option maxHeartbeats 4000000 in
theorem stays_walk (a0 : Option Addr) (len0 cap0 : Nat) (a1 : Option Addr) (len1 cap1 : Nat) (w : World) (h0 : IsActs w a0 len0) (h1 : IsActs w a1 len1) (hl0 : len0 ≤ 4398046511104) (hl1 : len1 ≤ 4398046511104) :
    Calls Try.prog 5 #[.slice a0 len0 cap0, .slice a1 len1 cap1] w fun e w' => e = .returned (.bool true) ∧ Below w.heap.size w w' := by
  have hlm0 : (len0 : Int) ≤ 4398046511104 := by omega
  have hlm1 : (len1 : Int) ≤ 4398046511104 := by omega
  have H0 : Hid (IsActs w a0 len0) := h0
  have H1 : Hid (IsActs w a1 len1) := h1
  clear h0 h1
  go_enter Try.func5, Try.ntmps5
  go_wp2
  go_loopw [7] (fun i wr => ∃ (k : Nat) (S : St) (sl : Option (Nat × Nat)) (T : List Nat) (g : Nat), k ≤ len0 ∧ i = .int .i64 (k : Int) ∧ g ≤ k ∧ Hid (Both w.heap.size wr w.heap.size (w.heap.size + 1) S sl T g) ∧ Hid (Below w.heap.size w wr)) (fun i _ => len0 - (intOf i).toNat)
  case atStart => exact ⟨0, newSt, none, [], 0, Nat.zero_le _, rfl, Nat.le_refl _, both_new w, ((Below.refl _ _).alloc (Nat.le_refl _) _).alloc (by simp) _⟩
  case round =>
    obtain ⟨k, S, sl, T, g, hk, rfl, hgk, hH, hB⟩ := hrel
    by_cases hlt : k < len0
    · obtain ⟨b, off, kind, how, tag, oth, ha, hbs, c0, c1, c2, c3, ht, ho⟩ := H0.out k hlt
      subst ha
      have d0 : wr.cell? ⟨b, off + k * 4, none⟩ = some (.int .i64 kind) := by rw [hB.out.cell (p := ⟨b, off + k * 4, none⟩) hbs]; exact c0
      have d1 : wr.cell? ⟨b, off + k * 4 + 1, none⟩ = some (.int .i64 how) := by rw [hB.out.cell (p := ⟨b, off + k * 4 + 1, none⟩) hbs]; exact c1
      have d2 : wr.cell? ⟨b, off + k * 4 + 2, none⟩ = some (.int .u64 (tag : Int)) := by rw [hB.out.cell (p := ⟨b, off + k * 4 + 2, none⟩) hbs]; exact c2
      have d3 : wr.cell? ⟨b, off + k * 4 + 3, none⟩ = some (.int .u64 (oth : Int)) := by rw [hB.out.cell (p := ⟨b, off + k * 4 + 3, none⟩) hbs]; exact c3
      have hdoes := does_any w.heap.size wr w.heap.size (w.heap.size + 1) S sl T g kind how tag oth hH.out hB.out.size (by omega) ht ho
      clear c0 c1 c2 c3
      go_wp2_with fail
      refine hdoes.mono ?_
      rintro e w1 ⟨rfl, hb, S', sl', T', g', hB', hg1, hg2, -, -⟩
      have HB1 : Hid (Below w.heap.size w w1) := hB.out.trans hb
      have HH1 : Hid (Both w.heap.size w1 w.heap.size (w.heap.size + 1) S' sl' T' g') := hB'
      clear hdoes hb hB' d0 d1 d2 d3
      go_wp2
      go_roundw
      case rel => exact ⟨k + 1, S', sl', T', g', by omega, by go_num, by omega, HH1, HB1⟩
      case measure => simp [intOf]; omega
    · have hTl := hH.out.p.tlen
      have hgb : g ≤ 4398046511104 := by omega
      have hds := hH.out.d.head.lt
      obtain ⟨A, cp, hsv⟩ := slv_shape hH.out.d.row
      have hdl : wr.cell? ⟨w.heap.size + 1, 0, none⟩ = some (.slice A T.length cp) := by rw [hH.out.d.head.cell, ← hsv]; rfl
      have hdl2 : ((wr.alloc (.cells #[] 25)).alloc (.cells #[] 26)).cell? ⟨w.heap.size + 1, 0, none⟩ = some (.slice A T.length cp) := by rw [((hH.out.alloc _).alloc _).d.head.cell, ← hsv]; rfl
      have HSV : Hid (slv T sl = .slice A T.length cp) := hsv
      clear hsv
      have R1 : Hid (RefAt ((wr.alloc (.cells #[] 25)).alloc (.cells #[] 26)) (w.heap.size + 1) sl T g) := ((hH.out.alloc _).alloc _).d
      have R2 : Hid (((wr.alloc (.cells #[] 25)).alloc (.cells #[] 26)).ownsRow 0 26 1 (.slice (some ⟨wr.heap.size + 1, 0, none⟩) 0 0) 0 []) := by
        have := owns_empty (wr.alloc (.cells #[] 25))
        rw [show (wr.alloc (.cells #[] 25)).heap.size = wr.heap.size + 1 from by simp] at this
        exact this
      go_wp2_with (at_builtin; refine wpList_copy rfl _ _ rfl R1.out hTl rfl R2.out A cp HSV.out rfl ?_; intro lb lcap w2 hrow2 hgrow2 hlie2)
      have HS : Hid (Stay w.heap.size w w2 w.heap.size (w.heap.size + 1) S sl T g T lb lcap (labs S 0) wr.heap.size 0) := stay_start hH.out hB.out (Nat.le_refl _) hrow2 hgrow2 hlie2
      have HP : Hid (Has wr w.heap.size S T g) := hH.out.p
      obtain ⟨wo, hwo⟩ : ∃ n : Nat, n = wr.heap.size := ⟨_, rfl⟩
      rw [← hwo] at HS
      have hTi : ((T.length : Nat) : Int) ≤ 8192 := by omega
      clear hrow2 hgrow2 hlie2 hdl hdl2 R1 R2 HSV hH hB hds hk hlt hgk
      rw [← hwo]
      clear hwo
      go_loopw [8, 10] (fun v i w3 => ∃ (j wb wcap : Nat), j ≤ T.length ∧ i = .int .i64 (j : Int) ∧ v = .slice (some ⟨wb, 0, none⟩) j wcap ∧ Hid (Stay w.heap.size w w3 w.heap.size (w.heap.size + 1) S sl T g T lb lcap (labs S j) wb wcap)) (fun _ i _ => T.length - (intOf i).toNat)
      case atStart => exact ⟨0, wo, 0, Nat.zero_le _, rfl, rfl, HS⟩
      case round =>
        obtain ⟨j, wb, wcap, hj, rfl, rfl, hS⟩ := hrel
        by_cases hlt : j < T.length
        · obtain ⟨x, hx⟩ : ∃ x, T[j]? = some x := ⟨_, List.getElem?_eq_getElem hlt⟩
          have hxm := hS.out.both.p.mem (List.mem_of_getElem? hx)
          have hlab := hS.out.both.p.label (t := x) (by omega) (pos_get hS.out.both.p.nodup (by omega) hx)
          have hcell : wr.cell? ⟨lb, j, none⟩ = some (.int .u64 (x : Int)) := hS.out.lrow.cell hx
          generalize hyy : labAt S.ns (j + 1) = y at *
          have Hyy : Hid (labAt S.ns (j + 1) = y) := hyy
          clear hyy hx hxm
          go_wp2_with fail
          refine hlab.mono ?_
          rintro e w4 ⟨rfl, rfl⟩
          clear hlab hcell
          go_wp2_with (at_builtin; refine wpList_lab rfl _ _ rfl (labs_length S j) rfl (hS.out.alloc _).wrow ⟨w4.heap.size, 0, none⟩ rfl (cell_one_new _ _ _) (by omega) ?_; intro g1 cap2 w5 hrow5 hgrow5 hlie5)
          have HS5 : Hid (Stay w.heap.size w w5 w.heap.size (w.heap.size + 1) S sl T g T lb lcap (labs S (j + 1)) g1 cap2) := by
            show Stay _ _ _ _ _ _ _ _ _ _ _ _ _ _ _
            rw [labs_succ, Hyy.out]
            exact (hS.out.alloc _).more hrow5 hgrow5 hlie5
          clear hrow5 hgrow5 hlie5
          go_wp2
          go_roundw
          case rel => exact ⟨j + 1, g1, cap2, by omega, by go_num, rfl, HS5⟩
          case measure => simp [intOf]; omega
        · have hjl : j = T.length := by omega
          subst hjl
          have hwr := hS.out.both.p.writesC
          go_wp2_with fail
          refine hwr.mono ?_
          rintro e w4 ⟨rfl, rfl⟩
          clear hwr
          go_wp2
          go_loopw [14] (fun i w6 => ∃ (k2 : Nat) (S2 : St) (sl2 : Option (Nat × Nat)) (T2 : List Nat), k2 ≤ len1 ∧ i = .int .i64 (k2 : Int) ∧ Hid (Stay w.heap.size w w6 w.heap.size (w.heap.size + 1) S2 sl2 T2 g T lb lcap (labs S T.length) wb wcap) ∧ Hid (S2.writes = S.writes ∧ ∀ n ∈ S2.ns, n ∈ S.ns)) (fun i _ => len1 - (intOf i).toNat)
          case atStart => exact ⟨0, S, sl, T, Nat.zero_le _, rfl, hS, ⟨rfl, fun n hn => hn⟩⟩
          case round =>
            obtain ⟨k2, S2, sl2, T2, hk2, rfl, hS2, hW2⟩ := hrel
            by_cases hlt2 : k2 < len1
            · obtain ⟨b, off, kind, how, tag, oth, ha, hbs, c0, c1, c2, c3, ht, ho⟩ := H1.out k2 hlt2
              subst ha
              have d0 : wr.cell? ⟨b, off + k2 * 4, none⟩ = some (.int .i64 kind) := by rw [hS2.out.below.cell (p := ⟨b, off + k2 * 4, none⟩) hbs]; exact c0
              have d1 : wr.cell? ⟨b, off + k2 * 4 + 1, none⟩ = some (.int .i64 how) := by rw [hS2.out.below.cell (p := ⟨b, off + k2 * 4 + 1, none⟩) hbs]; exact c1
              have d2 : wr.cell? ⟨b, off + k2 * 4 + 2, none⟩ = some (.int .u64 (tag : Int)) := by rw [hS2.out.below.cell (p := ⟨b, off + k2 * 4 + 2, none⟩) hbs]; exact c2
              have d3 : wr.cell? ⟨b, off + k2 * 4 + 3, none⟩ = some (.int .u64 (oth : Int)) := by rw [hS2.out.below.cell (p := ⟨b, off + k2 * 4 + 3, none⟩) hbs]; exact c3
              clear c0 c1 c2 c3
              by_cases hk0 : kind = 0
              · have hb0 : (kind != 0) = false := by rw [bne_eq_false_iff_eq]; exact hk0
                have HK0 : Hid (kind = 0) := hk0
                clear hk0
                go_wp2
                go_roundw
                case rel => exact ⟨k2 + 1, S2, sl2, T2, by omega, by go_num, hS2, hW2⟩
                case measure => simp [intOf]; omega
              · have hb0 : (kind != 0) = true := by rw [bne_iff_ne]; exact hk0
                have hdoes := does_fine w.heap.size wr w.heap.size (w.heap.size + 1) S2 sl2 T2 g kind how tag oth hS2.out.both (Nat.le_trans hS2.out.base hS2.out.below.size) hk0 (by omega) ht ho
                clear hk0
                go_wp2_with fail
                refine hdoes.mono ?_
                rintro e w6 ⟨rfl, hK⟩
                obtain ⟨S3, sl3, T3, hS3, hw3, hn3⟩ := hS2.out.act hK
                have HS3 : Hid (Stay w.heap.size w w6 w.heap.size (w.heap.size + 1) S3 sl3 T3 g T lb lcap (labs S T.length) wb wcap) := hS3
                have HW3 : Hid (S3.writes = S.writes ∧ ∀ n ∈ S3.ns, n ∈ S.ns) := ⟨hw3.trans hW2.out.1, fun n hn => hW2.out.2 n (hn3 n hn)⟩
                clear hdoes hK hS3 hw3 hn3 d0 d1 d2 d3
                go_wp2
                go_roundw
                case rel => exact ⟨k2 + 1, S3, sl3, T3, by omega, by go_num, HS3, HW3⟩
                case measure => simp [intOf]; omega
            · have hTl2 := hS2.out.both.p.tlen
              obtain ⟨wo, rfl⟩ : ∃ wo : World, wo = wr := ⟨_, rfl⟩
              go_wp2
              clear hlt2 hk2 hlt hj hS
              go_loopw [15] (fun i w7 => ∃ (j m : Nat), j ≤ T.length ∧ i = .int .i64 (j : Int) ∧ w7 = wo.drewN m) (fun i _ => T.length - (intOf i).toNat)
              case atStart => exact ⟨0, 0, Nat.zero_le _, rfl, rfl⟩
              case round =>
                obtain ⟨j, m, hj, rfl, rfl⟩ := hrel
                by_cases hlt : j < T.length
                · obtain ⟨x, hx⟩ : ∃ x, T[j]? = some x := ⟨_, List.getElem?_eq_getElem hlt⟩
                  have hxm := HP.out.mem (List.mem_of_getElem? hx)
                  have hcl : wo.cell? ⟨lb, j, none⟩ = some (.int .u64 (x : Int)) := hS2.out.lrow.cell hx
                  have hcw : wo.cell? ⟨wb, j, none⟩ = some (.int .u64 ((labAt S.ns (j + 1) : Nat) : Int)) := hS2.out.wrow.cell (labs_get S hlt)
                  have HX : Hid (T[j]? = some x) := hx
                  have hthere := there_any (wo.drewN m) (w.heap.size + 1) sl2 T2 g x (hS2.out.drewN m).both.d hTl2
                  cases hp : pos T2 x with
                  | none =>
                    have hlab := (hS2.out.drewN m).both.p.label_no (t := x) (by omega) hp
                    rw [hp] at hthere
                    clear hx hxm hp
                    go_wp2_with fail
                    refine hlab.mono ?_
                    rintro e w8 ⟨rfl, rfl⟩
                    go_wp2_with fail
                    refine hthere.mono ?_
                    rintro e w8 ⟨rfl, rfl⟩
                    clear hlab hthere
                    go_wp2
                    go_loopw [18] (fun i w8 => i = .int .i64 0 ∧ w8 = wo.drewN m) (fun i _ => 1)
                    case atStart => exact ⟨rfl, rfl⟩
                    case round =>
                      obtain ⟨rfl, rfl⟩ := hrel
                      by_cases hj0 : 0 < j
                      · go_wp2
                        go_roundw
                        case rel => exact ⟨j + 1, m, by omega, by go_num, rfl⟩
                        case measure => simp [intOf]; omega
                      · go_wp2
                        go_roundw
                        case rel => exact ⟨j + 1, m, by omega, by go_num, rfl⟩
                        case measure => simp [intOf]; omega
                  | some c =>
                    have hlab := (hS2.out.drewN m).both.p.label (t := x) (by omega) hp
                    rw [lab_same HP.out hS2.out.both.p hW2.out.2 hx hp] at hlab
                    rw [hp] at hthere
                    have HPX : Hid (pos T2 x = some c) := hp
                    have hxb : x < 18446744073709551616 := by omega
                    generalize hyy : labAt S.ns (j + 1) = y at *
                    have Hyy : Hid (labAt S.ns (j + 1) = y) := hyy
                    clear hx hxm hp hyy
                    go_wp2_with fail
                    refine hlab.mono ?_
                    rintro e w8 ⟨rfl, rfl⟩
                    go_wp2_with fail
                    refine hthere.mono ?_
                    rintro e w8 ⟨rfl, rfl⟩
                    clear hlab hthere
                    go_wp2
                    go_loopw [18] (fun i w8 => ∃ (q m2 : Nat), q ≤ j ∧ i = .int .i64 (q : Int) ∧ w8 = wo.drewN m2) (fun i _ => j - (intOf i).toNat)
                    case atStart => exact ⟨0, m, Nat.zero_le _, rfl, rfl⟩
                    case round =>
                      obtain ⟨q, m2, hq, rfl, rfl⟩ := hrel
                      by_cases hq1 : q < j
                      · by_cases hq2 : q < 20
                        · obtain ⟨z, hz⟩ : ∃ z, T[q]? = some z := ⟨_, List.getElem?_eq_getElem (by omega)⟩
                          have hzm := HP.out.mem (List.mem_of_getElem? hz)
                          have hqi : (q : Int) < ((T.length : Nat) : Int) := by omega
                          have hji : (j : Int) < ((T.length : Nat) : Int) := by omega
                          have hq0 : (0 : Int) ≤ (q : Int) := by omega
                          have hj0 : (0 : Int) ≤ (j : Int) := by omega
                          have hcz : wo.cell? ⟨lb, q, none⟩ = some (.int .u64 (z : Int)) := hS2.out.lrow.cell hz
                          have hcv : wo.cell? ⟨wb, q, none⟩ = some (.int .u64 ((labAt S.ns (q + 1) : Nat) : Int)) := hS2.out.wrow.cell (labs_get S (by omega))
                          have horder : ∀ n, Calls Try.prog 14 #[.pointer (some ⟨w.heap.size, 0, none⟩), .int .u64 (z : Int), .int .u64 (x : Int)] (wo.drewN (m2 + n)) fun e w' => e = .returned (.tuple #[.int .i64 (orderAns T2 z x).1, .int .i64 ((orderAns T2 z x).2 : Int)]) ∧ ∃ n', w' = wo.drewN (m2 + n') := fun n =>
                            ((hS2.out.drewN (m2 + n)).both.p.order (t := z) (s := x) (by omega) hxb).mono (fun e w' ⟨h1, k, h2⟩ => ⟨h1, n + k, by rw [h2, drewN_two, Nat.add_assoc]⟩)
                          have hrise := HP.out.good.fine.rise (q + 1) (j + 1) (by omega) (by rw [HP.out.len]; omega)
                          rw [Hyy.out] at hrise
                          cases hpz : pos T2 z with
                          | none =>
                            have eo : orderAns T2 z x = (0, 10) := by simp only [orderAns, hpz]
                            rw [eo] at horder
                            clear hz hzm hpz eo hrise
                            generalize labAt S.ns (q + 1) = v at *
                            go_wp2_with fail
                            go_quiet ((go_at_call 14; exact horder _))
                            clear horder
                            go_wp2_with fail
                            go_quiet (fail)
                            go_wp2
                            go_roundw
                            case rel => exact ⟨q + 1, _, by omega, by go_num, by first | rfl | exact (drewN_two _ _ _).trans (drewN_two _ _ _) | exact drewN_two _ _ _⟩
                            case measure => simp [intOf]; omega
                          | some d =>
                            have eo : orderAns T2 z x = (-1, 0) := order_same HP.out hS2.out.both.p hW2.out.2 hq1 HX.out hz HPX.out hpz
                            rw [eo] at horder
                            clear hz hzm hpz eo
                            generalize labAt S.ns (q + 1) = v at *
                            have hvd : decide (y ≤ v) = false := by simp; omega
                            go_wp2_with fail
                            go_quiet ((go_at_call 14; exact horder _))
                            clear horder
                            go_wp2_with fail
                            go_quiet (fail)
                            go_wp2
                            go_roundw
                            case rel => exact ⟨q + 1, _, by omega, by go_num, by first | rfl | exact (drewN_two _ _ _).trans (drewN_two _ _ _) | exact drewN_two _ _ _⟩
                            case measure => simp [intOf]; omega
                        · go_wp2
                          go_roundw
                          case rel => exact ⟨j + 1, m2, by omega, by go_num, rfl⟩
                          case measure => simp [intOf]; omega
                      · go_wp2
                        go_roundw
                        case rel => exact ⟨j + 1, m2, by omega, by go_num, rfl⟩
                        case measure => simp [intOf]; omega
                · have hnew := has_new (wo.drewN m)
                  have hafter := after_has _ (wo.drewN m).heap.size newSt [] 0 0 hnew (by omega) (by omega)
                  have e1 : afterAns [] 0 0 = (1, 0) := rfl
                  rw [e1] at hafter
                  have HS3 : Hid (Stay w.heap.size w ((wo.drewN m).alloc (.cells #[.map none, .int .u64 0, .int .u64 0, .pointer none, .pointer none, .int .u64 0, .int .u64 0] 31)) w.heap.size (w.heap.size + 1) S2 sl2 T2 g T lb lcap (labs S T.length) wb wcap) := (hS2.out.drewN m).alloc _
                  have HS4 : Hid (Stay w.heap.size w (wo.drewN m) w.heap.size (w.heap.size + 1) S2 sl2 T2 g T lb lcap (labs S T.length) wb wcap) := hS2.out.drewN m
                  clear e1 hnew
                  go_wp2_with fail
                  refine hafter.mono ?_
                  rintro e w9 ⟨rfl, S9, hH9, hT9, hO9⟩
                  have hpb : ∀ k, Own w.heap.size S2 k → ¬ Own (wo.drewN m).heap.size newSt k := fun k hk hk' => by
                    have h1 := HS4.out.both.p.lies.own_lt hk
                    have h2 := own_new hk'
                    omega
                  have hP9 := HS3.out.both.p.of_turn hT9 hpb
                  have hwr := hP9.writesC
                  rw [hW2.out.1] at hwr
                  have HB9 : Hid (Below w.heap.size w w9) := HS3.out.below.trans (hT9.below (Nat.le_trans HS3.out.base HS3.out.below.size) (fun k hk => by
                    have h2 := own_new hk
                    have h3 := Nat.le_trans HS4.out.base HS4.out.below.size
                    omega))
                  clear hafter hH9 hT9 hO9 hpb hP9 HS3 HS4
                  go_wp2_with fail
                  refine hwr.mono ?_
                  rintro e w10 ⟨rfl, rfl⟩
                  clear hwr
                  go_wp2
                  go_ret
                  exact ⟨rfl, HB9.out⟩

end Go.Proofs.Ytkppcnednfjbhaa
