/- The law WalkLinks is walked. -/
import Derived.Test.YtjkgjckkglfokaaLw
import Derived.Test.YtjkgjckkglfokaaPai
import Derived.Test.YtjkgjckkglfokaaPan
import Derived.Test.YtjkgjckkglfokaaLnil
import Derived.Test.YtjkgjckkglfokaaNone
import Derived.Deep.DeepCutAuto
import Derived.Deep.CutBlock
namespace Go.Proofs.Ytjkgjckkglfokaa
open Go.RowKit Go.Shelf
set_option linter.unusedVariables false
attribute [local go_sem] Oper.semAt_some

theorem with_act {F : Fence} {n : Nat} {P : Program} {c : Code} {Q : Exit → Act → World → Prop} {a : Act} {w : World} (h : ∀ b, b = a → c.wpIn F n P Q b w) : c.wpIn F n P Q a w := h a rfl

/-- Behind the last range: how many pairs were told. -/
def LwF (W : World) (most : Int) (oa : Option Addr) (oc : Nat) (os xs : List Int) (a : Option Addr) (c S d : Nat) (X : World) : Prop :=
  IsC X W.heap.size #[.int .i64 most] ∧ IsC X (W.heap.size + 1) #[.slice oa os.length oc] ∧ IsC X (W.heap.size + 2) #[.bool false] ∧ IsC X (W.heap.size + 6) #[.slice a xs.length c] ∧ Below W.heap.size W X ∧ W.heap.size + 7 ≤ S ∧ S < d ∧ X.heap[d]? = some (.deferred (some [])) ∧ ∃ k : Nat, IsC X S #[.int .i64 (k : Int)] ∧ (k = xs.length ∨ k = os.length ∨ (k : Int) = most)
theorem LwF.no {W : World} {most : Int} {oa : Option Addr} {oc : Nat} {os xs : List Int} {a : Option Addr} {c S d : Nat} {X Y : World} (h : LwF W most oa oc os xs a c S d X) (t : Tn (fun _ => False) X Y) : LwF W most oa oc os xs a c S d Y := by
  obtain ⟨h1, h2, h3, h4, h5, h6, h7, h8, k, h9, h10⟩ := h
  exact ⟨h1.tn t id, h2.tn t id, h3.tn t id, h4.tn t id, h5.trans (t.below h5.size (fun _ h => h.elim)), h6, h7, (t.block d (Array.getElem?_eq_some_iff.1 h8).1 id).trans h8, k, h9.tn t id, h10⟩

theorem LwF.last {W : World} {most : Int} {oa : Option Addr} {oc : Nat} {os xs : List Int} {a : Option Addr} {c S d : Nat} {X : World} (h : LwF W most oa oc os xs a c S d X) : (X.setCell ⟨W.heap.size + 2, 0, none⟩ (.bool true)).heap[d]? = some (.deferred (some [])) ∧ IsC ((X.setCell ⟨W.heap.size + 2, 0, none⟩ (.bool true)).putObj d (.deferred none)) (W.heap.size + 2) #[.bool true] ∧ Below W.heap.size W ((X.setCell ⟨W.heap.size + 2, 0, none⟩ (.bool true)).putObj d (.deferred none)) := by
  obtain ⟨h1, h2, h3, h4, h5, h6, h7, h8, h9⟩ := h
  have tS : Tn (fun b => b = W.heap.size + 2) X (X.setCell ⟨W.heap.size + 2, 0, none⟩ (.bool true)) := (Tn.refl (fun b => b = W.heap.size + 2) X).set (p := ⟨W.heap.size + 2, 0, none⟩) (.inl rfl) _
  refine ⟨(tS.block d (Array.getElem?_eq_some_iff.1 h8).1 (by omega)).trans h8, h3.set1.tn (Tn.put _ _ _) (by omega), ?_⟩
  have hb := h5.size
  exact (h5.setCell (p := ⟨W.heap.size + 2, 0, none⟩) (by show W.heap.size ≤ W.heap.size + 2; omega) _).trans ((Tn.put _ _ _).below (by have := tS.size; omega) (fun k (e : k = d) => by omega))

theorem NumsAt.bel {W W' : World} {N : Nat} {K : Nat → Prop} {a : Option Addr} {L : List Int} (h : NumsAt W K a L) (hb : Below N W W') (hK : ∀ b, K b → b < N) : NumsAt W' K a L := fun j x hx => by
  obtain ⟨g, o, q1, q2, q3, q4⟩ := h j x hx
  exact ⟨g, o, q1, q2, Nat.lt_of_lt_of_le q3 hb.size, (hb.cell (p := ⟨g, o + j, none⟩) (hK _ q2)).trans q4⟩
theorem zip_at {pre : List (Int × Int)} {x : Int × Int} {xs os : List Int} (h : pre ++ [x] <+: xs.zip os) : xs[pre.length]? = some x.1 ∧ os[pre.length]? = some x.2 := by
  obtain ⟨t, ht⟩ := h
  have h1 : (xs.zip os)[pre.length]? = some x := by rw [← ht]; simp
  rw [List.getElem?_zip_eq_some] at h1
  exact h1

/-- At the law's beginning. -/
theorem lw_start {W W6 : World} {la oa : Option Addr} {lc oc : Nat} {ls os : List Int} {most : Int} {Kl : Nat → Prop} (hl : NumsAt W Kl la ls) (hKl : ∀ b, Kl b → b < W.heap.size) (hll : ls.length ≤ 1048576)
    (h6 : ((((((W.alloc (.cells #[.int .i64 most] 3)).alloc (.cells #[.slice oa os.length oc] 47)).alloc (.cells #[.bool false] 4)).alloc (.cells #[.int .i64 0] 3)).alloc (.cells #[.slice la ls.length lc] 47)).alloc (.cells #[.pointer (some ⟨W.heap.size + 3, 0, none⟩)] 52)).alloc (.cells #[.slice la ls.length lc] 47) = W6) :
    LwE W most oa oc os ls (.func (.func 41) #[] #[.pointer (some ⟨W.heap.size + 4, 0, none⟩), .pointer (some ⟨W.heap.size + 5, 0, none⟩)]) (.slice la ls.length lc) W6 := by
  have n := fun (w : World) (o : Obj) => (Tn.refl (fun _ => False) w).alloc o
  have y0 := isC_new W #[.int .i64 most] 3
  have y1 := isC_new (W.alloc (.cells #[.int .i64 most] 3)) #[.slice oa os.length oc] 47
  have y2 := isC_new ((W.alloc (.cells #[.int .i64 most] 3)).alloc (.cells #[.slice oa os.length oc] 47)) #[.bool false] 4
  have y3 := isC_new (((W.alloc (.cells #[.int .i64 most] 3)).alloc (.cells #[.slice oa os.length oc] 47)).alloc (.cells #[.bool false] 4)) #[.int .i64 0] 3
  have y4 := isC_new ((((W.alloc (.cells #[.int .i64 most] 3)).alloc (.cells #[.slice oa os.length oc] 47)).alloc (.cells #[.bool false] 4)).alloc (.cells #[.int .i64 0] 3)) #[.slice la ls.length lc] 47
  have y5 := isC_new (((((W.alloc (.cells #[.int .i64 most] 3)).alloc (.cells #[.slice oa os.length oc] 47)).alloc (.cells #[.bool false] 4)).alloc (.cells #[.int .i64 0] 3)).alloc (.cells #[.slice la ls.length lc] 47)) #[.pointer (some ⟨W.heap.size + 3, 0, none⟩)] 52
  have y6 := isC_new ((((((W.alloc (.cells #[.int .i64 most] 3)).alloc (.cells #[.slice oa os.length oc] 47)).alloc (.cells #[.bool false] 4)).alloc (.cells #[.int .i64 0] 3)).alloc (.cells #[.slice la ls.length lc] 47)).alloc (.cells #[.pointer (some ⟨W.heap.size + 3, 0, none⟩)] 52)) #[.slice la ls.length lc] 47
  have z0 := (((((y0.tn (n _ (.cells #[.slice oa os.length oc] 47)) id).tn (n _ (.cells #[.bool false] 4)) id).tn (n _ (.cells #[.int .i64 0] 3)) id).tn (n _ (.cells #[.slice la ls.length lc] 47)) id).tn (n _ (.cells #[.pointer (some ⟨W.heap.size + 3, 0, none⟩)] 52)) id).tn (n _ (.cells #[.slice la ls.length lc] 47)) id
  have z1 := ((((y1.tn (n _ (.cells #[.bool false] 4)) id).tn (n _ (.cells #[.int .i64 0] 3)) id).tn (n _ (.cells #[.slice la ls.length lc] 47)) id).tn (n _ (.cells #[.pointer (some ⟨W.heap.size + 3, 0, none⟩)] 52)) id).tn (n _ (.cells #[.slice la ls.length lc] 47)) id
  have z2 := (((y2.tn (n _ (.cells #[.int .i64 0] 3)) id).tn (n _ (.cells #[.slice la ls.length lc] 47)) id).tn (n _ (.cells #[.pointer (some ⟨W.heap.size + 3, 0, none⟩)] 52)) id).tn (n _ (.cells #[.slice la ls.length lc] 47)) id
  have z3 := ((y3.tn (n _ (.cells #[.slice la ls.length lc] 47)) id).tn (n _ (.cells #[.pointer (some ⟨W.heap.size + 3, 0, none⟩)] 52)) id).tn (n _ (.cells #[.slice la ls.length lc] 47)) id
  have z4 := (y4.tn (n _ (.cells #[.pointer (some ⟨W.heap.size + 3, 0, none⟩)] 52)) id).tn (n _ (.cells #[.slice la ls.length lc] 47)) id
  have z5 := y5.tn (n _ (.cells #[.slice la ls.length lc] 47)) id
  have tW : Tn (fun _ => False) W W6 := by rw [← h6]; exact ((((((n _ _).alloc _).alloc _).alloc _).alloc _).alloc _).alloc _
  rw [h6] at z0 z1 z2 z3 z4 z5 y6
  simp only [World.size_alloc, Nat.add_assoc, Nat.reduceAdd] at z0 z1 z2 z3 z4 z5 y6
  have hs6 := y6.lt
  have hc := counted_seq (xs := ls) (a := la) (cap := lc) (lb := W.heap.size + 4) (nb := W.heap.size + 5) (cb := W.heap.size + 3) (K := Kl) (by omega) (fun h => by have := hKl _ h; omega) (by omega) (by omega)
  refine ⟨41, _, _, _, _, la, lc, Kl, rfl, rfl, ⟨enters_of Try.func41 (by kernel_rfl) rfl, hc, ⟨z4, z5, ⟨0, z3⟩, hl.tn tW (fun _ _ h => h)⟩, z0, z1, z2, y6, hl.tn tW (fun _ _ h => h), fun b hb => ⟨fun (e : b = W.heap.size + 3) => by have := hKl b hb; omega, Nat.lt_of_lt_of_le (hKl b hb) tW.size, .inl (hKl b hb)⟩, fun b (e : b = W.heap.size + 3) => .inl e, fun b hb => ?_, tW.below (Nat.le_refl _) (fun _ h => h.elim), by omega⟩, z3⟩
  rcases hb with rfl | rfl | rfl | ⟨g, o, -, hk, -, rfl⟩
  · omega
  · omega
  · omega
  · exact .inl (hKl _ hk)

set_option maxRecDepth 100000 in
set_option maxHeartbeats 8000000 in
theorem links_walk (W : World) (la : Option Addr) (ls : List Int) (lc : Nat) (ca : Option Addr) (Ls : List Lk) (cc : Nat) (most : Int) (oa : Option Addr) (os : List Int) (oc : Nat) (Kl Ko : Nat → Prop) (hl : NumsAt W Kl la ls) (hKl : ∀ b, Kl b → b < W.heap.size) (hc : LksAt W W.heap.size ca Ls) (ho : NumsAt W Ko oa os) (hKo : ∀ b, Ko b → b < W.heap.size)
    (hll : ls.length ≤ 1048576) (hcl : Ls.length ≤ 1048576) (hol : os.length ≤ 1048576) (hm0 : -9223372036854775808 ≤ most) (hm1 : most < 9223372036854775808) :
    CallsIn Fence.wide 0 Try.prog 4 #[.slice la ls.length lc, .slice ca Ls.length cc, .int .i64 most, .slice oa os.length oc] W fun e Y => e = .returned (.bool true) ∧ Below W.heap.size W Y := by
  obtain ⟨W4, hW4⟩ : ∃ W4, (((W.alloc (.cells #[.int .i64 most] 3)).alloc (.cells #[.slice oa os.length oc] 47)).alloc (.cells #[.bool false] 4)).alloc (.cells #[.int .i64 0] 3) = W4 := ⟨_, rfl⟩
  have HW4 : Hid ((((W.alloc (.cells #[.int .i64 most] 3)).alloc (.cells #[.slice oa os.length oc] 47)).alloc (.cells #[.bool false] 4)).alloc (.cells #[.int .i64 0] 3) = W4) := hW4
  have hs4 : W4.heap.size = W.heap.size + 4 := by rw [← hW4]; simp
  have HS4 : Hid (W4.heap.size = W.heap.size + 4) := hs4
  obtain ⟨W6, hW6⟩ : ∃ W6, ((W4.alloc (.cells #[.slice la ls.length lc] 47)).alloc (.cells #[.pointer (some ⟨W.heap.size + 3, 0, none⟩)] 52)).alloc (.cells #[.slice la ls.length lc] 47) = W6 := ⟨_, rfl⟩
  have HW6 : Hid (((W4.alloc (.cells #[.slice la ls.length lc] 47)).alloc (.cells #[.pointer (some ⟨W.heap.size + 3, 0, none⟩)] 52)).alloc (.cells #[.slice la ls.length lc] 47) = W6) := hW6
  have HL0 : Hid (LwE W most oa oc os ls (.func (.func 41) #[] #[.pointer (some ⟨W.heap.size + 4, 0, none⟩), .pointer (some ⟨W.heap.size + 5, 0, none⟩)]) (.slice la ls.length lc) W6) := lw_start hl hKl hll (by rw [← hW4] at hW6; exact hW6)
  have hmk := mk_counted W4 la ls.length lc (some ⟨W.heap.size + 3, 0, none⟩)
  have HC : Hid (LksAt W W.heap.size ca Ls) := hc
  have HOS : Hid (NumsAt W Ko oa os ∧ ∀ b, Ko b → b < W.heap.size) := ⟨ho, hKo⟩
  clear hW4 hW6 hc ho hKo hl hKl hs4
  refine callsIn_of_wp_marks Try.func4 rfl trivial ?_ rfl
  refine wpIn_wide.2 ?_
  simp only [Try.ntmps4, List.size_toArray, List.length_cons, List.length_nil, Nat.reduceAdd, Nat.reduceSub, Array.replicate_succ, Array.replicate_zero, List.push_toArray, List.append_toArray, List.nil_append, List.cons_append]
  go_wp2_with fail
  rw [HW4.out]
  simp only [Nat.add_assoc, Nat.reduceAdd]
  with_reducible refine hmk.mono ?_
  rintro e w' ⟨rfl, rfl⟩
  clear hmk
  go_wp2
  simp only [HS4.out, HW6.out, Nat.add_assoc, Nat.reduceAdd]
  go_loopw [10, 12] (fun fv v wr => ∃ (i : Nat) (xs : List Int) (gf : Nat) (lb : Array Value), i ≤ Ls.length ∧ v = .int .i64 (i : Int) ∧ xs.length ≤ 1048576 ∧ fv = .func (.func gf) #[] lb ∧ Hid (∃ sv, LwE W most oa oc os xs (.func (.func gf) #[] lb) sv wr)) (fun _ v _ => Ls.length - (intOf v).toNat)
  case atStart => exact ⟨0, ls, _, _, by omega, rfl, hll, rfl, _, HL0.out⟩
  case round =>
    obtain ⟨i, xs, gf, lb, hi, rfl, hxl, rfl, HE⟩ := hrel
    clear HL0 HW4 HW6 HS4
    obtain ⟨sv, gf', lb', R, T, Sq, a, c, K, hfv, hsv, hLw, h0⟩ := HE.out
    cases hfv
    by_cases hlt : i < Ls.length
    · obtain ⟨k, hk⟩ : ∃ k, Ls[i]? = some k := ⟨_, List.getElem?_eq_getElem hlt⟩
      obtain ⟨g, o, ma, mc, Km, rfl, hg, b0, b1, b2, b3, hM, hMN, hml, hag⟩ := (HC.out.below hLw.bel) i k hk
      have hgw : g < wr.heap.size := Nat.lt_of_lt_of_le hg hLw.bel.size
      have tD : Tn (fun _ => False) wr wr.drew := (Tn.refl _ _).drew
      have hLd := hLw.no tD
      have h0d := h0.tn tD id
      have hlk := linked_any hLd.seq hLd.eg W.heap.size wr.drew hLd.sq a c K hLd.nums (fun b hb => ⟨(hLd.hK b hb).1, (hLd.hK b hb).2.1⟩) hxl k.kd k.ag ma k.ms.length mc k.nl k.ms rfl Km (hM.tn tD (fun _ _ h => h)) (fun b hb => ⟨fun h => by have := hLd.hT b h; have := hMN b hb; omega, Nat.lt_of_lt_of_le (hMN b hb) hLd.bel.size⟩) hMN hml hag
      have c6 : wr.drew.cell? ⟨W.heap.size + 6, 0, none⟩ = some (.slice a xs.length c) := hLd.wb.cell 0
      have d0 : wr.drew.cell? ⟨g, o + i * 4, none⟩ = some (.int .i64 k.kd) := b0
      have d1 : wr.drew.cell? ⟨g, o + i * 4 + 1, none⟩ = some (.int .i64 k.ag) := b1
      have d2 : wr.drew.cell? ⟨g, o + i * 4 + 2, none⟩ = some (.slice ma k.ms.length mc) := b2
      have d3 : wr.drew.cell? ⟨g, o + i * 4 + 3, none⟩ = some (.bool k.nl) := b3
      have hsz := hLw.sz
      have HST : Hid (∀ e Y, LinkP W.heap.size wr.drew R T K (lkd k.kd k.ag k.ms k.nl xs) e Y → ∃ fv a' c', e = .returned (.tuple #[fv, .slice a' (lkd k.kd k.ag k.ms k.nl xs).length c']) ∧ Tn (fun _ => False) wr.drew Y ∧ (∃ gf lb, fv = .func (.func gf) #[] lb) ∧ Hid (LwE W most oa oc os (lkd k.kd k.ag k.ms k.nl xs) fv (.slice a' (lkd k.kd k.ag k.ms k.nl xs).length c') (Y.setCell ⟨W.heap.size + 6, 0, none⟩ (.slice a' (lkd k.kd k.ag k.ms k.nl xs).length c')))) := fun e Y h => lw_step hLd h0d h
      have HWB : Hid (IsC wr.drew (W.heap.size + 6) #[.slice a xs.length c]) := hLd.wb
      have hln := lkd_len (kd := k.kd) (ag := k.ag) (ms := k.ms) (nl := k.nl) (xs := xs)
      obtain ⟨ys, hys⟩ : ∃ ys, lkd k.kd k.ag k.ms k.nl xs = ys := ⟨_, rfl⟩
      rw [hys] at hlk HST hln
      unfold LinkC at hlk
      clear hLw h0 hLd h0d b0 b1 b2 b3 hM hMN hag tD hk hys HE
      have tok : True := trivial
      go_wp2_with fail
      refine wp_region_noPanic ?_
      go_region_with (first | (have _t := tok; go_at_call 14; (with_reducible refine hlk.mono ?_); intro e Y hP; obtain ⟨fv, a2, c2, rfl, tY, ⟨gf2, lb2, rfl⟩, HN⟩ := HST.out e Y hP; have w6 := HWB.out.tn tY id; have z6 : Y.cell? ⟨W.heap.size + 6, 0, none⟩ = some (.slice a xs.length c) := w6.cell 0; have f6 : Y.frozen? ⟨W.heap.size + 6, 0, none⟩ = false := w6.frozen 0; have l6 := w6.lt; clear tok _t hP tY w6 hlk))
      all_goals refine NoPanic.normal ?_
      all_goals (
        obtain ⟨gf3, lb3, R3, T3, Sq3, a3, c3, K3, hf3, hs3, hLw3, h03⟩ := HN.out
        cases hf3
        simp only [Value.slice.injEq] at hs3
        obtain ⟨rfl, -, rfl⟩ := hs3
        clear z6 f6 l6 HST HWB c6 d0 d1 d2 d3
        generalize Y.setCell ⟨W.heap.size + 6, 0, none⟩ (.slice a2 ys.length c2) = wz at *
        have e6 : wz.cell? ⟨W.heap.size + 6, 0, none⟩ = some (.slice a2 ys.length c2) := hLw3.wb.cell 0
        have f2 : wz.frozen? ⟨W.heap.size + 2, 0, none⟩ = false := hLw3.rb.frozen 0
        have e2 : wz.cell? ⟨W.heap.size + 2, 0, none⟩ = some (.bool false) := hLw3.rb.cell 0
        have l2 := hLw3.rb.lt
        have l6 := hLw3.wb.lt
        have HLw : Hid (Lw W most oa oc os ys gf2 lb2 R3 T3 Sq3 a2 c2 K3 wz) := hLw3
        clear hLw3 h03
        by_cases hbig : 65536 < ys.length
        · go_wp2
          exact ⟨_, res_bool rfl _ _ (W.heap.size + 2) _ rfl (HLw.out.rb.set1.cell 0), rfl, HLw.out.bel.setCell (p := ⟨W.heap.size + 2, 0, none⟩) (by show W.heap.size ≤ W.heap.size + 2; omega) _⟩
        · go_wp2
          go_roundw
          case rel => exact ⟨i + 1, ys, gf2, lb2, by omega, by go_num, by omega, rfl, _, HN.out⟩
          case measure => simp [intOf]; omega)
    · have HLw : Hid (Lw W most oa oc os xs gf lb R T Sq a c K wr) := hLw
      have e3 : wr.cell? ⟨W.heap.size + 3, 0, none⟩ = some (.int .i64 0) := h0.cell 0
      have e6 : wr.cell? ⟨W.heap.size + 6, 0, none⟩ = some (.slice a xs.length c) := hLw.wb.cell 0
      have e0 : wr.cell? ⟨W.heap.size, 0, none⟩ = some (.int .i64 most) := hLw.mb.cell 0
      have l3 := h0.lt
      have l6 := hLw.wb.lt
      have l0 := hLw.mb.lt
      have HNUM : Hid (∀ w', Lw W most oa oc os xs gf lb R T Sq a c K w' → ∀ m, Calls Try.prog 15 #[.func (.func gf) #[] lb, .slice a xs.length c, .int .i64 m] w' fun e Y => e = .returned (.bool true) ∧ Lw W most oa oc os xs gf lb R T Sq a c K Y) := by
        intro w' h m
        refine (callsIn_wide.1 (numbers_any h.seq h.eg w' h.sq a c K h.nums (fun b hb => (h.hK b hb).1) (fun b hb => (h.hK b hb).2.1) m (by omega))).mono ?_
        rintro e Y ⟨he, t, q⟩
        exact ⟨he, h.tn t q⟩
      clear hLw h0 HE
      have tok1 : True := trivial
      have tok2 : True := trivial
      have tok3 : True := trivial
      have hafter : ∀ Y : World, Hid (Lw W most oa oc os xs gf lb R T Sq a c K Y) → True := fun _ _ => trivial
      go_upto_region 9 with fail
      go_cut [72] from 48 to 72 (fun v wx => v = .bool false ∧ Hid (Lw W most oa oc os xs gf lb R T Sq a c K wx))
      case first =>
        by_cases hmp : 0 < most
        · have hmd : decide (0 < most) = true := by simp [hmp]
          go_wp2_with (first | (have _t := tok1; go_at_call 15; (with_reducible refine (HNUM.out wr HLw.out (-1)).mono ?_); rintro e Y1 ⟨rfl, hL1⟩; have HL1 : Hid (Lw W most oa oc os xs gf lb R T Sq a c K Y1) := hL1; have e61 : Y1.cell? ⟨W.heap.size + 6, 0, none⟩ = some (.slice a xs.length c) := hL1.wb.cell 0; have e01 : Y1.cell? ⟨W.heap.size, 0, none⟩ = some (.int .i64 most) := hL1.mb.cell 0; have l61 := hL1.wb.lt; have l01 := hL1.mb.lt; clear tok1 _t hL1) | (have _t := tok2; go_at_call 15; (with_reducible refine (HNUM.out Y1 HL1.out (most)).mono ?_); rintro e Y2 ⟨rfl, hL2⟩; have HL2 : Hid (Lw W most oa oc os xs gf lb R T Sq a c K Y2) := hL2; have e62 : Y2.cell? ⟨W.heap.size + 6, 0, none⟩ = some (.slice a xs.length c) := hL2.wb.cell 0; have e02 : Y2.cell? ⟨W.heap.size, 0, none⟩ = some (.int .i64 most) := hL2.mb.cell 0; have l62 := hL2.wb.lt; have l02 := hL2.mb.lt; clear tok2 _t hL2) | (have _t := tok3; go_at_call 15; (with_reducible refine (HNUM.out Y2 HL2.out (-1)).mono ?_); rintro e Y3 ⟨rfl, hL3⟩; have HL3 : Hid (Lw W most oa oc os xs gf lb R T Sq a c K Y3) := hL3; have e63 : Y3.cell? ⟨W.heap.size + 6, 0, none⟩ = some (.slice a xs.length c) := hL3.wb.cell 0; have e03 : Y3.cell? ⟨W.heap.size, 0, none⟩ = some (.int .i64 most) := hL3.mb.cell 0; have l63 := hL3.wb.lt; have l03 := hL3.mb.lt; clear tok3 _t hL3))
          go_meet
          exact ⟨rfl, HL3⟩
        · have hmd : decide (0 < most) = false := by simp [hmp]
          go_wp2_with (first | (have _t := tok1; go_at_call 15; (with_reducible refine (HNUM.out wr HLw.out (-1)).mono ?_); rintro e Y1 ⟨rfl, hL1⟩; have HL1 : Hid (Lw W most oa oc os xs gf lb R T Sq a c K Y1) := hL1; have e61 : Y1.cell? ⟨W.heap.size + 6, 0, none⟩ = some (.slice a xs.length c) := hL1.wb.cell 0; have e01 : Y1.cell? ⟨W.heap.size, 0, none⟩ = some (.int .i64 most) := hL1.mb.cell 0; have l61 := hL1.wb.lt; have l01 := hL1.mb.lt; clear tok1 _t hL1) | (have _t := tok2; go_at_call 15; (with_reducible refine (HNUM.out Y1 HL1.out (-1)).mono ?_); rintro e Y3 ⟨rfl, hL3⟩; have HL3 : Hid (Lw W most oa oc os xs gf lb R T Sq a c K Y3) := hL3; have e63 : Y3.cell? ⟨W.heap.size + 6, 0, none⟩ = some (.slice a xs.length c) := hL3.wb.cell 0; have e03 : Y3.cell? ⟨W.heap.size, 0, none⟩ = some (.int .i64 most) := hL3.mb.cell 0; have l63 := hL3.wb.lt; have l03 := hL3.mb.lt; clear tok2 _t hL3))
          go_meet
          exact ⟨rfl, HL3⟩
      case rest =>
        obtain ⟨rfl, HLc⟩ := hcut
        clear HLw e3 e6 e0 l3 l6 l0 tok1 tok2 tok3 hafter
        have HLI : Hid ((most < 0 → Calls Try.prog 16 #[.func (.func gf) #[] lb, .int .i64 most] wc fun e Y => e = .returned (.tuple #[.slice none 0 0, .int .i64 1]) ∧ Lw W most oa oc os xs gf lb R T Sq a c K Y) ∧ (0 ≤ most → most < (xs.length : Int) → Calls Try.prog 16 #[.func (.func gf) #[] lb, .int .i64 most] wc fun e Y => e = .returned (.tuple #[.slice none 0 0, .int .i64 2]) ∧ Lw W most oa oc os xs gf lb R T Sq a c K Y) ∧ ((xs.length : Int) ≤ most → Calls Try.prog 16 #[.func (.func gf) #[] lb, .int .i64 most] wc fun e Y => ∃ ax ac, e = .returned (.tuple #[.slice ax xs.length ac, .int .i64 0]) ∧ Lw W most oa oc os xs gf lb R T Sq a c K Y ∧ ∃ Kx, NumsAt Y Kx ax xs)) := by
          have h := HLc.out
          refine ⟨fun hm => (list_neg wc gf lb most hm).mono fun e Y he => ⟨he.1, h.no he.2⟩, fun h1 h2 => (list_any h.seq h.eg wc h.sq most h1 (by omega)).mono ?_, fun h1 => (list_any h.seq h.eg wc h.sq most (by omega) (by omega)).mono ?_⟩
          · rintro e Y ⟨t, q, hc | hc⟩
            · omega
            · exact ⟨hc.2, h.tn t q⟩
          · rintro e Y ⟨t, q, hc | hc⟩
            · obtain ⟨-, ax, ac, he, ho⟩ := hc
              exact ⟨ax, ac, he, h.tn t q, _, nums_own ho⟩
            · omega
        have e0 : wc.cell? ⟨W.heap.size, 0, none⟩ = some (.int .i64 most) := HLc.out.mb.cell 0
        have l0 := HLc.out.mb.lt
        go_upto_region 11 with fail
        go_cut [13, 14] from 73 to 78 (fun v13 v14 wx => (∃ ax n ac ee, v13 = .slice ax n ac ∧ v14 = .int .i64 ee ∧ Hid ((most < 0 ∧ n = 0 ∧ ee = 1) ∨ (0 ≤ most ∧ most < (xs.length : Int) ∧ n = 0 ∧ ee = 2) ∨ ((xs.length : Int) ≤ most ∧ n = xs.length ∧ ee = 0)) ∧ n ≤ xs.length ∧ Hid (∃ Kx, NumsAt wx Kx ax (xs.take n))) ∧ Hid (Lw W most oa oc os xs gf lb R T Sq a c K wx))
        case first =>
          by_cases h1 : most < 0
          · have hli := HLI.out.1 h1
            go_wp2_with fail
            with_reducible refine hli.mono ?_
            rintro e Y ⟨rfl, hY⟩
            have HY : Hid (Lw W most oa oc os xs gf lb R T Sq a c K Y) := hY
            clear hY hli
            go_wp2
            go_meet
            exact ⟨⟨none, 0, 0, 1, rfl, rfl, .inl ⟨h1, rfl, rfl⟩, by omega, ⟨fun _ => False, fun j x hx => by simp at hx⟩⟩, HY⟩
          · by_cases h2 : most < (xs.length : Int)
            · have hli := HLI.out.2.1 (by omega) h2
              go_wp2_with fail
              with_reducible refine hli.mono ?_
              rintro e Y ⟨rfl, hY⟩
              have HY : Hid (Lw W most oa oc os xs gf lb R T Sq a c K Y) := hY
              clear hY hli
              go_wp2
              go_meet
              exact ⟨⟨none, 0, 0, 2, rfl, rfl, .inr (.inl ⟨by omega, h2, rfl, rfl⟩), by omega, ⟨fun _ => False, fun j x hx => by simp at hx⟩⟩, HY⟩
            · have hli := HLI.out.2.2 (by omega)
              go_wp2_with fail
              with_reducible refine hli.mono ?_
              rintro e Y ⟨ax, ac, rfl, hY, Kx, hKx⟩
              have HY : Hid (Lw W most oa oc os xs gf lb R T Sq a c K Y ∧ NumsAt Y Kx ax xs) := ⟨hY, hKx⟩
              clear hY hli hKx
              go_wp2
              go_meet
              exact ⟨⟨ax, xs.length, ac, 0, rfl, rfl, .inr (.inr ⟨by omega, rfl, rfl⟩), by omega, ⟨Kx, by rw [List.take_length]; exact HY.out.2⟩⟩, HY.out.1⟩
        case rest =>
          obtain ⟨⟨ax, n, ac, ee, rfl, rfl, HCS, hn, HAX⟩, HL1⟩ := hcut
          clear HLI HLc HNUM e0 l0
          have e0 : wc.cell? ⟨W.heap.size, 0, none⟩ = some (.int .i64 most) := HL1.out.mb.cell 0
          have e6 : wc.cell? ⟨W.heap.size + 6, 0, none⟩ = some (.slice a xs.length c) := HL1.out.wb.cell 0
          have l0 := HL1.out.mb.lt
          have l6 := HL1.out.wb.lt
          have hz1 := HL1.out.sz
          go_upto_block 2 with fail
          go_cut [] from 79 to 109 (fun wx => wx = wc)
          case first =>
            rcases HCS.out with ⟨h1, rfl, rfl⟩ | ⟨h0, h1, rfl, rfl⟩ | ⟨h1, rfl, rfl⟩
            · go_wp2
              go_meet
              rfl
            · have h2 : ¬ most < 0 := by omega
              go_wp2
              go_meet
              rfl
            · have h2 : ¬ most < 0 := by omega
              have h3 : ¬ most < (xs.length : Int) := by omega
              go_wp2
              go_meet
              rfl
          case rest =>
            subst hcut
            go_upto_block 3 with fail
            go_cut [15] from 110 to 124 (fun _ wx => Hid (Lw W most oa oc os xs gf lb R T Sq a c K wx))
            case first =>
              go_wp2_with fail
              go_loopw [15] (fun v wx => ∃ j : Nat, j ≤ n ∧ v = .int .i64 (j : Int) ∧ Hid (Tn (fun _ => False) wc wx)) (fun v _ => n - (intOf v).toNat)
              case atStart => exact ⟨0, by omega, rfl, Tn.refl _ _⟩
              case round =>
                obtain ⟨j, hj, rfl, HT⟩ := hrel
                have g6 : wr.cell? ⟨W.heap.size + 6, 0, none⟩ = some (.slice a xs.length c) := (HT.out.cell l6 id).trans e6
                have hzr := HT.out.size
                have l6r : W.heap.size + 6 < wr.heap.size := by omega
                by_cases hjn : j < n
                · obtain ⟨x, hx⟩ : ∃ x, xs[j]? = some x := ⟨_, List.getElem?_eq_getElem (by omega)⟩
                  obtain ⟨Kx, hKx⟩ := HAX.out
                  obtain ⟨g1, o1, rfl, -, hg1, hc1⟩ := hKx j x (by rw [List.getElem?_take_of_lt hjn]; exact hx)
                  obtain ⟨g2, o2, rfl, -, hg2, hc2⟩ := HL1.out.nums j x hx
                  have d1 : wr.cell? ⟨g1, o1 + j, none⟩ = some (.int .i64 x) := (HT.out.cell hg1 id).trans hc1
                  have d2 : wr.cell? ⟨g2, o2 + j, none⟩ = some (.int .i64 x) := (HT.out.cell hg2 id).trans hc2
                  have hjx : (j : Int) < (xs.length : Int) := by omega
                  have hxx : (x == x) = true := by simp
                  clear hKx hc1 hc2 hx
                  go_wp2_with fail
                  go_quiet (fail)
                  have HT2 : Hid (Tn (fun _ => False) wc (wr.drewN nq)) := HT.out.drewN nq
                  go_wp2
                  go_roundw
                  case rel => exact ⟨j + 1, by omega, by go_num, HT2⟩
                  case measure => simp [intOf]; omega
                · have HL2 : Hid (Lw W most oa oc os xs gf lb R T Sq a c K wr) := HL1.out.no HT.out
                  go_wp2
                  go_meet
                  exact HL2
            case rest =>
              clear HL1 HAX e0 e6 l0 l6 hz1 HCS
              have HL1 := hcut
              clear hcut
              have e1 : wc.cell? ⟨W.heap.size + 1, 0, none⟩ = some (.slice oa os.length oc) := HL1.out.ob.cell 0
              have l1 := HL1.out.ob.lt
              have l1s : W.heap.size + 1 < wc.heap.size + 1 := by omega
              have l1t : W.heap.size + 1 < wc.heap.size + 1 + 1 := by omega
              have hz1 := HL1.out.sz
              obtain ⟨S, hS⟩ : ∃ S, wc.heap.size = S := ⟨_, rfl⟩
              have HS : Hid (wc.heap.size = S) := hS
              obtain ⟨Wk, hWk⟩ : ∃ Wk, (wc.alloc (.cells #[.int .i64 0] 3)).alloc (.cells #[.int .i64 0] 3) = Wk := ⟨_, rfl⟩
              have HWk : Hid ((wc.alloc (.cells #[.int .i64 0] 3)).alloc (.cells #[.int .i64 0] 3) = Wk) := hWk
              obtain ⟨Wm, hWm⟩ : ∃ Wm, (Wk.alloc (.cells #[.slice oa os.length oc] 47)).alloc (.cells #[.pointer (some ⟨S + 1, 0, none⟩)] 52) = Wm := ⟨_, rfl⟩
              have HWm : Hid ((Wk.alloc (.cells #[.slice oa os.length oc] 47)).alloc (.cells #[.pointer (some ⟨S + 1, 0, none⟩)] 52) = Wm) := hWm
              obtain ⟨Wp, hWp⟩ : ∃ Wp, (Wm.alloc (.cells #[.func (.func gf) #[] lb] 50)).alloc (.cells #[.func (.func 41) #[] #[.pointer (some ⟨S + 2, 0, none⟩), .pointer (some ⟨S + 3, 0, none⟩)]] 50) = Wp := ⟨_, rfl⟩
              have HWp : Hid ((Wm.alloc (.cells #[.func (.func gf) #[] lb] 50)).alloc (.cells #[.func (.func 41) #[] #[.pointer (some ⟨S + 2, 0, none⟩), .pointer (some ⟨S + 3, 0, none⟩)]] 50) = Wp) := hWp
              have sk : Wk.heap.size = S + 2 := by rw [← hWk]; simp [hS]
              have sm : Wm.heap.size = S + 4 := by rw [← hWm]; simp [sk]
              have hmk1 := mk_counted Wk oa os.length oc (some ⟨S + 1, 0, none⟩)
              have hmk2 := mk_pairs Wm gf lb 41 #[.pointer (some ⟨S + 2, 0, none⟩), .pointer (some ⟨S + 3, 0, none⟩)]
              rw [sk] at hmk1
              rw [sm] at hmk2
              have hq61 : ∀ w, (binOp .eql 61 (.func (.func 53) #[] #[.pointer (some ⟨S + 4, 0, none⟩), .pointer (some ⟨S + 4 + 1, 0, none⟩)]) .nilFunc).run Try.prog w = .ok (.bool false) w := fun _ => by kernel_rfl
              have HLP : Hid (Lw W most oa oc os xs gf lb R T Sq a c K Wp ∧ IsC Wp S #[.int .i64 0] ∧ IsC Wp (S + 1) #[.int .i64 0] ∧ IsC Wp (S + 2) #[.slice oa os.length oc] ∧ IsC Wp (S + 3) #[.pointer (some ⟨S + 1, 0, none⟩)] ∧ IsC Wp (S + 4) #[.func (.func gf) #[] lb] ∧ IsC Wp (S + 5) #[.func (.func 41) #[] #[.pointer (some ⟨S + 2, 0, none⟩), .pointer (some ⟨S + 3, 0, none⟩)]] ∧ W.heap.size + 7 ≤ S ∧ (∀ b, R b → b < S) ∧ (∀ b, K b → b < S)) := by
                have n := fun (w : World) (o : Obj) => (Tn.refl (fun _ => False) w).alloc o
                have tk : Tn (fun _ => False) wc Wk := by rw [← hWk]; exact (n _ _).alloc _
                have tm : Tn (fun _ => False) Wk Wm := by rw [← hWm]; exact (n _ _).alloc _
                have tp : Tn (fun _ => False) Wm Wp := by rw [← hWp]; exact (n _ _).alloc _
                have y0 : IsC Wk S #[.int .i64 0] := by rw [← hWk, ← hS]; exact (isC_new wc _ _).tn (n _ _) id
                have y1 : IsC Wk (S + 1) #[.int .i64 0] := by
                  have h := isC_new (wc.alloc (.cells #[.int .i64 0] 3)) #[.int .i64 0] 3
                  rw [hWk] at h
                  simpa [hS] using h
                have y2 : IsC Wm (S + 2) #[.slice oa os.length oc] := by rw [← hWm, ← sk]; exact (isC_new Wk _ _).tn (n _ _) id
                have y3 : IsC Wm (S + 3) #[.pointer (some ⟨S + 1, 0, none⟩)] := by
                  have h := isC_new (Wk.alloc (.cells #[.slice oa os.length oc] 47)) #[.pointer (some ⟨S + 1, 0, none⟩)] 52
                  rw [hWm] at h
                  simpa [sk] using h
                have y4 : IsC Wp (S + 4) #[.func (.func gf) #[] lb] := by rw [← hWp, ← sm]; exact (isC_new Wm _ _).tn (n _ _) id
                have y5 : IsC Wp (S + 5) #[.func (.func 41) #[] #[.pointer (some ⟨S + 2, 0, none⟩), .pointer (some ⟨S + 3, 0, none⟩)]] := by
                  have h := isC_new (Wm.alloc (.cells #[.func (.func gf) #[] lb] 50)) #[.func (.func 41) #[] #[.pointer (some ⟨S + 2, 0, none⟩), .pointer (some ⟨S + 3, 0, none⟩)]] 50
                  rw [hWp] at h
                  simpa [sm] using h
                exact ⟨((HL1.out.no tk).no tm).no tp, (y0.tn tm id).tn tp id, (y1.tn tm id).tn tp id, y2.tn tp id, y3.tn tp id, y4, y5, by rw [← hS]; exact hz1, fun b hb => by rw [← hS]; exact HL1.out.seq.lt _ HL1.out.sq b hb, fun b hb => by rw [← hS]; exact (HL1.out.hK b hb).2.1⟩
              clear hWk hWm hWp hS sk sm HL1
              go_wp2_with (first | (go_at_call 13; rw [HWk.out, HS.out]; (with_reducible refine hmk1.mono ?_); rintro e w' ⟨rfl, rfl⟩; rw [HWm.out]; clear hmk1) | (go_at_call 17; (with_reducible refine hmk2.mono ?_); rintro e w' ⟨rfl, rfl⟩; rw [HWp.out]; clear hmk2))
              rename_i K5 hK5
              refine (wpIn_wide (n := 0)).1 ?_
              refine with_act (fun fr hfr => ?_)
              have hK : ∀ X d, Hid (LwF W most oa oc os xs a c S d X) → K5 { fr with defers := { target := .collected d, args := #[] } :: fr.defers } X := by
                intro X d HF
                subst hfr
                apply hK5
                obtain ⟨-, -, -, -, -, -, -, -, k, hk1, hk2⟩ := HF.out
                have HK : Hid (IsC X S #[.int .i64 (k : Int)]) := hk1
                clear hk1 HLP hq61 HWk HWm HWp HS
                by_cases q1 : k = xs.length
                · have b1 : ((k : Int) == (xs.length : Int)) = true := by simp [q1]
                  clear q1 hk2
                  have tok1 : True := trivial
                  have tok2 : True := trivial
                  go_wp2_with (first
                    | (have _t := tok1; go_at_call 16; (with_reducible refine (list_nil X 3).mono ?_); rintro e Y1 ⟨rfl, t1⟩; have HF1 : Hid (LwF W most oa oc os xs a c S d Y1) := HF.out.no t1; have HF2 : Hid (LwF W most oa oc os xs a c S d (Y1.alloc (.cells #[.slice none 0 0] 47))) := HF1.out.no ((Tn.refl _ _).alloc _); have HK1 : Hid (IsC Y1 S #[.int .i64 (k : Int)]) := HK.out.tn t1 id; have HK2 : Hid (IsC (Y1.alloc (.cells #[.slice none 0 0] 47)) S #[.int .i64 (k : Int)]) := HK1.out.tn ((Tn.refl (fun _ => False) _).alloc _) id; have hlp := list_panics (Y1.alloc (.cells #[.slice none 0 0] 47)) Y1.heap.size S k (isC_new _ _ _) HK2.out 3 (by omega); clear tok1 _t t1)
                    | (have _t := tok2; go_at_call 16; (with_reducible refine hlp.mono ?_); rintro e Y2 ⟨rfl, t2⟩; have HF3 : Hid (LwF W most oa oc os xs a c S d Y2) := HF2.out.no t2; have HK3 : Hid (IsC Y2 S #[.int .i64 (k : Int)]) := HK2.out.tn t2 id; have e0 : Y2.cell? ⟨W.heap.size, 0, none⟩ = some (.int .i64 most) := HF3.out.1.cell 0; have e1 : Y2.cell? ⟨W.heap.size + 1, 0, none⟩ = some (.slice oa os.length oc) := HF3.out.2.1.cell 0; have e6 : Y2.cell? ⟨W.heap.size + 6, 0, none⟩ = some (.slice a xs.length c) := HF3.out.2.2.2.1.cell 0; have eS : Y2.cell? ⟨S, 0, none⟩ = some (.int .i64 (k : Int)) := HK3.out.cell 0; have m0 := HF3.out.1.lt; have m1 := HF3.out.2.1.lt; have m6 := HF3.out.2.2.2.1.lt; have mS := HK3.out.lt; clear tok2 _t t2 hlp)
                    | (go_at_call 19; (with_reducible refine (callsIn_wide.1 (none_any Y2)).mono ?_); rintro e Y3 ⟨rfl, t3⟩; have HF4 : Hid (LwF W most oa oc os xs a c S d Y3) := HF3.out.no t3; have f2 : Y3.frozen? ⟨W.heap.size + 2, 0, none⟩ = false := HF4.out.2.2.1.frozen 0; have c2 : Y3.cell? ⟨W.heap.size + 2, 0, none⟩ = some (.bool false) := HF4.out.2.2.1.cell 0; have l2 := HF4.out.2.2.1.lt; clear t3))
                  have HZ := HF4.out.last
                  refine ⟨by simp, .inl ⟨_, _, rfl, run_takeDeferred HZ.1, ?_⟩⟩
                  exact ⟨_, res_bool rfl _ _ (W.heap.size + 2) _ rfl (HZ.2.1.cell 0), rfl, HZ.2.2⟩
                · have b1 : ((k : Int) == (xs.length : Int)) = false := by simp; omega
                  by_cases q2 : k = os.length
                  · have b2 : ((k : Int) == (os.length : Int)) = true := by simp [q2]
                    clear q1 q2 hk2
                    have tok1 : True := trivial
                    have tok2 : True := trivial
                    go_wp2_with (first
                      | (have _t := tok1; go_at_call 16; (with_reducible refine (list_nil X 3).mono ?_); rintro e Y1 ⟨rfl, t1⟩; have HF1 : Hid (LwF W most oa oc os xs a c S d Y1) := HF.out.no t1; have HF2 : Hid (LwF W most oa oc os xs a c S d (Y1.alloc (.cells #[.slice none 0 0] 47))) := HF1.out.no ((Tn.refl _ _).alloc _); have HK1 : Hid (IsC Y1 S #[.int .i64 (k : Int)]) := HK.out.tn t1 id; have HK2 : Hid (IsC (Y1.alloc (.cells #[.slice none 0 0] 47)) S #[.int .i64 (k : Int)]) := HK1.out.tn ((Tn.refl (fun _ => False) _).alloc _) id; have hlp := list_panics (Y1.alloc (.cells #[.slice none 0 0] 47)) Y1.heap.size S k (isC_new _ _ _) HK2.out 3 (by omega); clear tok1 _t t1)
                      | (have _t := tok2; go_at_call 16; (with_reducible refine hlp.mono ?_); rintro e Y2 ⟨rfl, t2⟩; have HF3 : Hid (LwF W most oa oc os xs a c S d Y2) := HF2.out.no t2; have HK3 : Hid (IsC Y2 S #[.int .i64 (k : Int)]) := HK2.out.tn t2 id; have e0 : Y2.cell? ⟨W.heap.size, 0, none⟩ = some (.int .i64 most) := HF3.out.1.cell 0; have e1 : Y2.cell? ⟨W.heap.size + 1, 0, none⟩ = some (.slice oa os.length oc) := HF3.out.2.1.cell 0; have e6 : Y2.cell? ⟨W.heap.size + 6, 0, none⟩ = some (.slice a xs.length c) := HF3.out.2.2.2.1.cell 0; have eS : Y2.cell? ⟨S, 0, none⟩ = some (.int .i64 (k : Int)) := HK3.out.cell 0; have m0 := HF3.out.1.lt; have m1 := HF3.out.2.1.lt; have m6 := HF3.out.2.2.2.1.lt; have mS := HK3.out.lt; clear tok2 _t t2 hlp)
                      | (go_at_call 19; (with_reducible refine (callsIn_wide.1 (none_any Y2)).mono ?_); rintro e Y3 ⟨rfl, t3⟩; have HF4 : Hid (LwF W most oa oc os xs a c S d Y3) := HF3.out.no t3; have f2 : Y3.frozen? ⟨W.heap.size + 2, 0, none⟩ = false := HF4.out.2.2.1.frozen 0; have c2 : Y3.cell? ⟨W.heap.size + 2, 0, none⟩ = some (.bool false) := HF4.out.2.2.1.cell 0; have l2 := HF4.out.2.2.1.lt; clear t3))
                    have HZ := HF4.out.last
                    refine ⟨by simp, .inl ⟨_, _, rfl, run_takeDeferred HZ.1, ?_⟩⟩
                    exact ⟨_, res_bool rfl _ _ (W.heap.size + 2) _ rfl (HZ.2.1.cell 0), rfl, HZ.2.2⟩
                  · have b2 : ((k : Int) == (os.length : Int)) = false := by simp; omega
                    have b3 : ((k : Int) == most) = true := by
                      rcases hk2 with h | h | h
                      · exact absurd h q1
                      · exact absurd h q2
                      · simp [h]
                    clear q1 q2 hk2
                    have tok1 : True := trivial
                    have tok2 : True := trivial
                    go_wp2_with (first
                      | (have _t := tok1; go_at_call 16; (with_reducible refine (list_nil X 3).mono ?_); rintro e Y1 ⟨rfl, t1⟩; have HF1 : Hid (LwF W most oa oc os xs a c S d Y1) := HF.out.no t1; have HF2 : Hid (LwF W most oa oc os xs a c S d (Y1.alloc (.cells #[.slice none 0 0] 47))) := HF1.out.no ((Tn.refl _ _).alloc _); have HK1 : Hid (IsC Y1 S #[.int .i64 (k : Int)]) := HK.out.tn t1 id; have HK2 : Hid (IsC (Y1.alloc (.cells #[.slice none 0 0] 47)) S #[.int .i64 (k : Int)]) := HK1.out.tn ((Tn.refl (fun _ => False) _).alloc _) id; have hlp := list_panics (Y1.alloc (.cells #[.slice none 0 0] 47)) Y1.heap.size S k (isC_new _ _ _) HK2.out 3 (by omega); clear tok1 _t t1)
                      | (have _t := tok2; go_at_call 16; (with_reducible refine hlp.mono ?_); rintro e Y2 ⟨rfl, t2⟩; have HF3 : Hid (LwF W most oa oc os xs a c S d Y2) := HF2.out.no t2; have HK3 : Hid (IsC Y2 S #[.int .i64 (k : Int)]) := HK2.out.tn t2 id; have e0 : Y2.cell? ⟨W.heap.size, 0, none⟩ = some (.int .i64 most) := HF3.out.1.cell 0; have e1 : Y2.cell? ⟨W.heap.size + 1, 0, none⟩ = some (.slice oa os.length oc) := HF3.out.2.1.cell 0; have e6 : Y2.cell? ⟨W.heap.size + 6, 0, none⟩ = some (.slice a xs.length c) := HF3.out.2.2.2.1.cell 0; have eS : Y2.cell? ⟨S, 0, none⟩ = some (.int .i64 (k : Int)) := HK3.out.cell 0; have m0 := HF3.out.1.lt; have m1 := HF3.out.2.1.lt; have m6 := HF3.out.2.2.2.1.lt; have mS := HK3.out.lt; clear tok2 _t t2 hlp)
                      | (go_at_call 19; (with_reducible refine (callsIn_wide.1 (none_any Y2)).mono ?_); rintro e Y3 ⟨rfl, t3⟩; have HF4 : Hid (LwF W most oa oc os xs a c S d Y3) := HF3.out.no t3; have f2 : Y3.frozen? ⟨W.heap.size + 2, 0, none⟩ = false := HF4.out.2.2.1.frozen 0; have c2 : Y3.cell? ⟨W.heap.size + 2, 0, none⟩ = some (.bool false) := HF4.out.2.2.1.cell 0; have l2 := HF4.out.2.2.1.lt; clear t3))
                    have HZ := HF4.out.last
                    refine ⟨by simp, .inl ⟨_, _, rfl, run_takeDeferred HZ.1, ?_⟩⟩
                    exact ⟨_, res_bool rfl _ _ (W.heap.size + 2) _ rfl (HZ.2.1.cell 0), rfl, HZ.2.2⟩
              obtain ⟨hLp, z0, z1, z2, z3, z4, z5, hNS, hRS, hKS⟩ := HLP.out
              have e41 := enters_of Try.func41 (by kernel_rfl) rfl
              have e53 := enters_of Try.func53 (by kernel_rfl) rfl
              have hoN := HOS.out.2
              have hoWp : NumsAt Wp Ko oa os := HOS.out.1.bel hLp.bel hoN
              have hc41 := counted_seq (xs := os) (a := oa) (cap := oc) (lb := S + 2) (nb := S + 3) (cb := S + 1) (K := Ko) (by omega) (fun h => by have := hoN _ h; omega) (by omega) (by omega)
              have hR2 : ∀ b, (b = S + 2 ∨ b = S + 3 ∨ b = S + 1 ∨ ∃ g o, oa = some ⟨g, o, none⟩ ∧ Ko g ∧ os ≠ [] ∧ b = g) → b < S + 4 ∧ ¬ T b ∧ b ≠ S := by
                rintro b (rfl | rfl | rfl | ⟨g, o, -, hk, -, rfl⟩)
                · exact ⟨by omega, fun h => by have := hRS _ (hLp.seq.sub _ h); omega, by omega⟩
                · exact ⟨by omega, fun h => by have := hRS _ (hLp.seq.sub _ h); omega, by omega⟩
                · exact ⟨by omega, fun h => by have := hRS _ (hLp.seq.sub _ h); omega, by omega⟩
                · exact ⟨by have := hoN _ hk; omega, fun h => by have := hoN _ hk; have := hLp.hT _ h; omega, by have := hoN _ hk; omega⟩
              have hps := pairs_seq hLp.seq hLp.eg hc41 e41 (sb := S + 4) (tb := S + 4 + 1) (fun h => by have := hRS _ h; omega) (fun h => by have := hRS _ h; omega) (fun h => by have := (hR2 _ h).1; omega) (fun h => by have := (hR2 _ h).1; omega) (fun b hb (h : b = S + 1) => by have := hRS b hb; omega) (fun b hb => (hR2 b hb).2.1) (by omega)
              obtain ⟨D, hD⟩ : ∃ D : Nat → Prop, D = fun b => b = W.heap.size ∨ b = W.heap.size + 1 ∨ b = W.heap.size + 6 ∨ K b ∨ Ko b := ⟨_, rfl⟩
              obtain ⟨I, hI⟩ : ∃ I : Inv (Int × Int), I = fun s C X => C = (fun b => b = S) ∧ IsC X S #[.int .i64 (s.length : Int)] ∧ IsC X W.heap.size #[.int .i64 most] ∧ IsC X (W.heap.size + 1) #[.slice oa os.length oc] ∧ IsC X (W.heap.size + 6) #[.slice a xs.length c] ∧ NumsAt X K a xs ∧ NumsAt X Ko oa os ∧ ∀ b, D b → b < X.heap.size := ⟨_, rfl⟩
              obtain ⟨Ix, hIx⟩ : ∃ Ix : Code → Inv (Int × Int), Ix = fun cd s C X => cd = .exit 5 ∧ I s C X ∧ (s.length : Int) = most := ⟨_, rfl⟩
              have stI : Stb D I := by
                rw [hI]
                refine ⟨?_, ?_⟩
                · rintro s C X ⟨rfl, q1, -, -, -, -, -, q7⟩ b hb
                  rcases hb with (rfl : b = S) | hb
                  · exact q1.lt
                  · exact q7 b hb
                · rintro s C A X Y ⟨rfl, q1, q2, q3, q4, q5, q6, q7⟩ ht hA
                  have hA' : ∀ b, D b → ¬ A b := fun b hb => hA b (.inr hb)
                  rw [hD] at hA'
                  exact ⟨rfl, q1.tn ht (hA _ (.inl rfl)), q2.tn ht (hA' _ (.inl rfl)), q3.tn ht (hA' _ (.inr (.inl rfl))), q4.tn ht (hA' _ (.inr (.inr (.inl rfl)))), q5.tn ht (fun b hb => hA' b (.inr (.inr (.inr (.inl hb))))), q6.tn ht (fun b hb => hA' b (.inr (.inr (.inr (.inr hb))))), fun b hb => Nat.lt_of_lt_of_le (q7 b hb) ht.size⟩
              have stIx : ∀ cd, Stb D (Ix cd) := fun cd => by
                rw [hIx]
                exact ⟨fun s C X h => stI.1 s C X h.2.1, fun s C A X Y h ht hA => ⟨h.1, stI.2 s C A X Y h.2.1 ht hA, h.2.2⟩⟩
              have hpz := z5.lt
              have hDb : ∀ b, D b → b < S ∧ b ≠ S + 1 ∧ ¬ T b := by
                intro b hb
                rw [hD] at hb
                rcases hb with rfl | rfl | rfl | hb | hb
                · exact ⟨by omega, by omega, fun h => by have := hLp.hT _ h; omega⟩
                · exact ⟨by omega, by omega, fun h => by have := hLp.hT _ h; omega⟩
                · exact ⟨by omega, by omega, fun h => by have := hLp.hT _ h; omega⟩
                · have := hKS b hb
                  exact ⟨by omega, by omega, (hLp.hK b hb).1⟩
                · have := hoN b hb
                  exact ⟨by omega, by omega, fun h => by have := hLp.hT _ h; omega⟩
              have h0 : I [] (fun b => b = S) Wp := by
                rw [hI]
                exact ⟨rfl, z0, hLp.mb, hLp.ob, hLp.wb, hLp.nums, hoWp, fun b hb => by have := (hDb b hb).1; omega⟩
              have HFIN : Hid (∀ s C X, I s C X → (s = xs.zip os ∨ (s.length : Int) = most) → Tn (fun b => (T b ∨ b = S + 1) ∨ b = S) Wp X → X.heap[Wp.heap.size]? = some (.deferred (some [])) → LwF W most oa oc os xs a c S Wp.heap.size X) := by
                intro s C X hi hs tX hd
                rw [hI] at hi
                obtain ⟨-, q1, q2, q3, q4, -⟩ := hi
                refine ⟨q2, q3, hLp.rb.tn tX (fun h => ?_), q4, hLp.bel.trans (tX.below (by have := hLp.sz; omega) (fun k h => ?_)), hNS, by omega, hd, s.length, q1, ?_⟩
                · rcases h with (h | h) | h
                  · have := hLp.hT _ h; omega
                  · omega
                  · omega
                · rcases h with (h | h) | h
                  · have := hLp.hT _ h; omega
                  · omega
                  · omega
                · rcases hs with rfl | hs
                  · rw [List.length_zip]; omega
                  · exact .inr (.inr hs)
              refine range_it (gf := 53) (lb := #[.pointer (some ⟨S + 4, 0, none⟩), .pointer (some ⟨S + 4 + 1, 0, none⟩)]) (by rw [hfr]; rfl) (fun args w => e53 args w) (encs := encP) (fun _ => rfl) hps ⟨hLp.sq, ⟨z2, z3, ⟨0, z1⟩, hoWp⟩, z4, z5⟩ I Ix D stI stIx (fun b => b = S) h0 (fun b (hb : b = S) hr => ?_) (fun b hb ht => ?_)
                (fun x a' => a' = { tmps := (((fr.tmps.setIfInBounds 132 (.int .i64 x.1)).setIfInBounds 133 (.int .i64 x.2)).setIfInBounds 19 (.int .i64 x.1)).setIfInBounds 20 (.int .i64 x.2), defers := [] })
                ?assign ?body ?done ?stop
              · rcases hr with hr | hr | hr | hr
                · have := hRS b hr; omega
                · exact (hR2 b hr).2.2 hb
                · omega
                · omega
              · rcases ht with ht | (ht : b = S + 1)
                · exact (hDb b hb).2.2 ht
                · exact (hDb b hb).2.1 ht
              case assign =>
                intro l2 x X Kc hKc
                subst hfr
                unfold encP
                gi_wp2
              case body =>
                rintro l3 pre ⟨x1, x2⟩ a' C X hpre hIX rfl
                obtain ⟨hx1, hx2⟩ := zip_at hpre
                simp only at hx1 hx2
                have hIX' := hIX
                rw [hI] at hIX
                obtain ⟨rfl, q1, q2, q3, q4, q5, q6, q7⟩ := hIX
                obtain ⟨g1, o1, rfl, -, hg1, hc1⟩ := q5 _ x1 hx1
                obtain ⟨g2, o2, rfl, -, hg2, hc2⟩ := q6 _ x2 hx2
                have lt1 : pre.length < xs.length := (List.getElem?_eq_some_iff.1 hx1).1
                have lt2 : pre.length < os.length := (List.getElem?_eq_some_iff.1 hx2).1
                have cS : X.cell? ⟨S, 0, none⟩ = some (.int .i64 (pre.length : Int)) := q1.cell 0
                have fS : X.frozen? ⟨S, 0, none⟩ = false := q1.frozen 0
                have c0 : X.cell? ⟨W.heap.size, 0, none⟩ = some (.int .i64 most) := q2.cell 0
                have c1 : X.cell? ⟨W.heap.size + 1, 0, none⟩ = some (.slice (some ⟨g2, o2, none⟩) os.length oc) := q3.cell 0
                have c6 : X.cell? ⟨W.heap.size + 6, 0, none⟩ = some (.slice (some ⟨g1, o1, none⟩) xs.length c) := q4.cell 0
                have m0 := q2.lt
                have m1 := q3.lt
                have m6 := q4.lt
                have mS := q1.lt
                obtain ⟨k, hk⟩ : ∃ k, k = pre.length := ⟨_, rfl⟩
                obtain ⟨X1, hX1⟩ : ∃ X1, X.setCell ⟨S, 0, none⟩ (.int .i64 ((k : Int) + 1)) = X1 := ⟨_, rfl⟩
                have t1 : Tn (fun b => b = S) X X1 := by rw [← hX1]; exact (Tn.refl (fun b => b = S) X).set (p := ⟨S, 0, none⟩) (.inl rfl) _
                have HG : Hid (I (pre ++ [(x1, x2)]) (fun b => b = S) X1 ∧ Tn (fun b => b = S) X X1) := by
                  refine ⟨?_, t1⟩
                  rw [hI]
                  have nS : ∀ b, D b → b ≠ S := fun b hb => by have := (hDb b hb).1; omega
                  refine ⟨rfl, ?_, q2.tn t1 (by omega), q3.tn t1 (by omega), q4.tn t1 (by omega), q5.tn t1 (fun b hb => nS b (by rw [hD]; exact .inr (.inr (.inr (.inl hb))))), q6.tn t1 (fun b hb => nS b (by rw [hD]; exact .inr (.inr (.inr (.inr hb))))), fun b hb => Nat.lt_of_lt_of_le (q7 b hb) t1.size⟩
                  have h := q1.set1 (u' := .int .i64 ((k : Int) + 1))
                  rw [hX1, hk] at h
                  simpa using h
                have HX1 : Hid (X.setCell ⟨S, 0, none⟩ (.int .i64 ((k : Int) + 1)) = X1) := hX1
                rw [← hk] at cS hc1 hc2 lt1 lt2
                have k1 : ¬ (xs.length : Int) ≤ (k : Int) := by omega
                have k2 : ¬ (os.length : Int) ≤ (k : Int) := by omega
                have k3 : (0 : Int) ≤ (k : Int) := by omega
                have k4 : (k : Int) < (xs.length : Int) := by omega
                have k5 : (k : Int) < (os.length : Int) := by omega
                have y1 : (x1 == x1) = true := by simp
                have y2 : (x2 == x2) = true := by simp
                have HKK : Hid (k = pre.length) := hk
                have HIX : Hid (Ix = fun cd s C X => cd = .exit 5 ∧ I s C X ∧ (s.length : Int) = most) := hIx
                subst hfr
                clear hIX' q1 q2 q3 q4 q5 q6 q7 hpre hx1 hx2 hI hIx hD hDb stI stIx h0 hX1 t1 hk hps hc41 hoWp hLp z0 z1 z2 z3 z4 z5 HFIN hK hR2 hRS hKS hoN HLP hq61 HWk HWm HWp HS e41 e53
                by_cases hm : (k : Int) + 1 = most
                · have hmb : ((k : Int) + 1 == most) = true := by simp [hm]
                  have HM : Hid ((k : Int) + 1 = most) := hm
                  clear hm
                  gi_wp2
                  rw [HX1.out]
                  refine ⟨_, HG.out.2, fun b hb => .inl hb, ?_⟩
                  show Ix (.exit 5) _ _ _
                  rw [HIX.out]
                  exact ⟨rfl, HG.out.1, by rw [List.length_append, List.length_singleton, ← HKK.out]; exact_mod_cast HM.out⟩
                · have hmb : ((k : Int) + 1 == most) = false := by simp [hm]
                  clear hm
                  gi_wp2
                  rw [HX1.out]
                  exact ⟨_, HG.out.2, fun b hb => .inl hb, HG.out.1⟩
              case done =>
                intro C X hIX tX hqX hC hDd nD
                have HG : Hid (LwF W most oa oc os xs a c S Wp.heap.size X) := HFIN.out _ _ _ hIX (.inl rfl) tX hDd
                exact hK X Wp.heap.size HG
              case stop =>
                intro cd pre C X hpre hIX tX hqX hC hDd nD
                rw [hIx] at hIX
                obtain ⟨rfl, hi, hm⟩ := hIX
                have HG : Hid (LwF W most oa oc os xs a c S Wp.heap.size X) := HFIN.out _ _ _ hi (.inr hm) tX hDd
                have hk := hK X Wp.heap.size HG
                clear hi hm tX hqX hC hDd nD
                gi_wp2
                exact HG

end Go.Proofs.Ytjkgjckkglfokaa
