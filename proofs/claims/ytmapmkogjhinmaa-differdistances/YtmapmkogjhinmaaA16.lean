/- distance: of two forests, by the program. -/
import Derived.Test.YtmapmkogjhinmaaA15
import Derived.Test.YtmapmkogjhinmaaA12
import Derived.Test.YtmapmkogjhinmaaA13
import Derived.Test.YtmapmkogjhinmaaA11
namespace Go.Proofs.Ytmapmkogjhinmaa
open Go.RowKit
set_option maxRecDepth 100000
set_option maxHeartbeats 4000000
set_option linter.unusedVariables false
set_option linter.unusedSimpArgs false
structure TuAt (w0 wr : World) (mb : Nat) (A B : List (Kn × Nat)) (va vb vm : Value) (I J : Nat) : Prop where
 turn : Turn (fun b => b = mb) w0 wr
 cells : ∃ cs : Array Value, IsCells wr mb cs /\ cs[0]? = some va /\ cs[1]? = some vb /\ cs[1026]? = some vm /\
  ∀ i j, i < A.length -> j < B.length -> ((i < I \/ (i = I /\ j < J)) -> cs[2 + i * 32 + j]? = some (.int .i64 (turnN A B i j : Int))) /\ ((I < i \/ (i = I /\ J <= j)) -> cs[2 + i * 32 + j]? = some (.int .i64 0))
theorem TuAt.more {w0 wr w' : World} {mb : Nat} {A B : List (Kn × Nat)} {va vb vm : Value} {I J : Nat} (h : TuAt w0 wr mb A B va vb vm I J) (hb : Below wr.heap.size wr w') : TuAt w0 w' mb A B va vb vm I J := by
 obtain ⟨cs, h1, h2⟩ := h.cells
 exact ⟨h.turn.then hb h.turn.size, cs, h1.of_block (hb.block _ h1.lt), h2⟩
theorem TuAt.same {w0 wr : World} {mb : Nat} {A B : List (Kn × Nat)} {va vb vm : Value} {I J : Nat} (h : TuAt w0 wr mb A B va vb vm I J) (ht : turnN A B I J = 0) : TuAt w0 wr mb A B va vb vm I (J + 1) := by
 obtain ⟨cs, h1, h2, h3, h4, h5⟩ := h.cells
 refine ⟨h.turn, cs, h1, h2, h3, h4, fun i j hi hj => ⟨fun hd => ?_, fun hd => (h5 i j hi hj).2 (by omega)⟩⟩
 by_cases e : i = I /\ j = J
 ·obtain ⟨rfl, rfl⟩ := e
  rw [ht]
  exact (h5 i j hi hj).2 (by omega)
 ·exact (h5 i j hi hj).1 (by omega)
theorem TuAt.other {w0 wr : World} {mb : Nat} {A B : List (Kn × Nat)} {va vb vm : Value} {I J : Nat} (h : TuAt w0 wr mb A B va vb vm I J) (ht : turnN A B I J = 1) (hI : I < 32) (hJ : J < 32) (hB : B.length <= 32) (hA : A.length <= 32) : TuAt w0 (wr.setCell ⟨mb, 2 + I * 32 + J, none⟩ (.int .i64 1)) mb A B va vb vm I (J + 1) := by
 obtain ⟨cs, h1, h2, h3, h4, h5⟩ := h.cells
 refine ⟨h.turn.setCell (p := ⟨mb, _, none⟩) rfl _, _, h1.set (2 + I * 32 + J) (.int .i64 1), ?_, ?_, ?_, fun i j hi hj => ?_⟩
 ·rw [Array.getElem?_setIfInBounds_ne (by omega)]; exact h2
 ·rw [Array.getElem?_setIfInBounds_ne (by omega)]; exact h3
 ·rw [Array.getElem?_setIfInBounds_ne (by omega)]; exact h4
 ·by_cases e : i = I /\ j = J
  ·obtain ⟨rfl, rfl⟩ := e
   refine ⟨fun _ => ?_, fun hd => by omega⟩
   have hc := (h5 i j hi hj).2 (by omega)
   have hlt := (Array.getElem?_eq_some_iff.1 hc).1
   rw [ht]
   simp [hlt]
  ·have hne : 2 + I * 32 + J ≠ 2 + i * 32 + j := by omega
   rw [Array.getElem?_setIfInBounds_ne hne]
   exact ⟨fun hd => (h5 i j hi hj).1 (by omega), fun hd => (h5 i j hi hj).2 (by omega)⟩
theorem TuAt.row {w0 wr : World} {mb : Nat} {A B : List (Kn × Nat)} {va vb vm : Value} {I : Nat} (h : TuAt w0 wr mb A B va vb vm I B.length) : TuAt w0 wr mb A B va vb vm (I + 1) 0 := by
 obtain ⟨cs, h1, h2, h3, h4, h5⟩ := h.cells
 exact ⟨h.turn, cs, h1, h2, h3, h4, fun i j hi hj => ⟨fun hd => (h5 i j hi hj).1 (by omega), fun hd => (h5 i j hi hj).2 (by omega)⟩⟩
theorem TuAt.start {w0 : World} {mb : Nat} {A B : List (Kn × Nat)} {va vb vm : Value} (h : IsCells w0 mb (big va vb vm)) (hA : A.length <= 32) (hB : B.length <= 32) : TuAt w0 w0 mb A B va vb vm 0 0 :=
 ⟨Turn.refl _ _, _, h, big_0 _ _ _, big_1 _ _ _, big_3 _ _ _, fun i j hi hj => ⟨fun hd => by omega, fun _ => by rw [Nat.add_assoc]; exact big_2 _ _ _ _ (by omega)⟩⟩
theorem ends_get {w : World} {base lo hi : Nat} {la : Option Addr} {lcap : Nat} {xs : List Value} {P : List (Kn × Nat)} (ho : w.ownsRow base 60 6 (.slice la P.length lcap) P.length xs) (he : EndsAt w lo hi xs P) {i : Nat} {p : Kn × Nat} (hp : P[i]? = some p) :
  ∃ g aa ac, la = some ⟨g, 0, none⟩ /\ base <= g /\ g < w.heap.size /\ w.cell? ⟨g, i * 6, none⟩ = some (.int .i64 p.1.kind) /\ w.cell? ⟨g, i * 6 + 1, none⟩ = some (.string p.1.name) /\ w.cell? ⟨g, i * 6 + 2, none⟩ = some (.slice aa p.1.attrs.length ac) /\ w.cell? ⟨g, i * 6 + 3, none⟩ = some (.string p.1.text) /\ w.cell? ⟨g, i * 6 + 4, none⟩ = some (.slice none 0 0) /\ w.cell? ⟨g, i * 6 + 5, none⟩ = some (.int .i64 (p.2 : Int)) /\ AttrsAt w lo hi aa p.1.attrs /\ p.1.attrs.length <= maxA := by
 obtain ⟨h1, h2⟩ := he
 obtain ⟨aa, ac, h3, h4, h5, -⟩ := h2 i p hp
 obtain ⟨r1, r2, r3⟩ := row_cell ho
 have hj : ∀ j u, (endv p.1 aa ac p.2)[j]? = some u -> j < 6 -> ∃ g, la = some ⟨g, 0, none⟩ /\ base <= g /\ g < w.heap.size /\ w.cell? ⟨g, i * 6 + j, none⟩ = some u := fun j u hu hj => by
  rw [<- h3 j hj] at hu
  exact r3 _ _ hu
 obtain ⟨g, rfl, g1, g2, c0⟩ := hj 0 _ rfl (by omega)
 obtain ⟨_, q, -, -, c1⟩ := hj 1 _ rfl (by omega); cases q
 obtain ⟨_, q, -, -, c2⟩ := hj 2 _ rfl (by omega); cases q
 obtain ⟨_, q, -, -, c3⟩ := hj 3 _ rfl (by omega); cases q
 obtain ⟨_, q, -, -, c4⟩ := hj 4 _ rfl (by omega); cases q
 obtain ⟨_, q, -, -, c5⟩ := hj 5 _ rfl (by omega); cases q
 exact ⟨g, aa, ac, rfl, g1, g2, c0, c1, c2, c3, c4, c5, h4, h5⟩
theorem distance_any (w : World) (lo : Nat) (a a2 : Option Addr) (L L2 : List (T 64)) (c c2 : Nat) (hk : KidsAt w lo w.heap.size 64 a L) (hk2 : KidsAt w lo w.heap.size 64 a2 L2) (hl : L.length <= maxK) (hl2 : L2.length <= maxK) (hA : (posF false L).length <= 32) (hB : (posF false L2).length <= 32) (hkd : ∀ p ∈ posF false L, p.1.kind = 1 \/ p.1.kind = 2) :
  Calls Try.prog 9 #[.slice a L.length c, .slice a2 L2.length c2] w fun e w' => e = .returned (.int .i64 ((Z (posF false L) (posF false L2) 0 (posF false L).length 0 (posF false L2).length : Nat) : Int)) /\ Below w.heap.size w w' := by
 have hc1 := ends_any 64 w lo w.heap.size w.heap.size a L c none 0 [] [] hk (Nat.le_refl _) (Nat.le_refl _) hl (own_nil _ _ _ _) ⟨rfl, fun i p h => by simp at h⟩ (by unfold posF at hA; simpa using Nat.le_trans hA (by omega))
 have HK2 : Hid (KidsAt w lo w.heap.size 64 a2 L2) := hk2
 have HL2 : Hid (L2.length <= maxK) := hl2
 have HWA : Hid (WP (posF false L)) := posF_wp false L
 have HWB : Hid (WP (posF false L2)) := posF_wp false L2
 have HB9 : Hid ((posF false L2).length <= 32) := hB
 have eA : ([] : List (Kn × Nat)) ++ posL (posT false 64) L ([] : List (Kn × Nat)).length = posF false L := rfl
 have eB : ([] : List (Kn × Nat)) ++ posL (posT false 64) L2 ([] : List (Kn × Nat)).length = posF false L2 := rfl
 rw [eA] at hc1
 have HE2 : Hid (∀ W, KidsAt W lo w.heap.size 64 a2 L2 -> w.heap.size <= W.heap.size -> Calls Try.prog 15 #[.slice a2 L2.length c2, .slice none 0 0] W (EndsP W lo w.heap.size W.heap.size (.slice none 0 0) (posF false L2))) := fun W hW hs => by
  have := ends_any 64 W lo w.heap.size W.heap.size a2 L2 c2 none 0 [] [] hW hs (Nat.le_refl _) HL2.out (own_nil _ _ _ _) ⟨rfl, fun i p h => by simp at h⟩ (by have := HB9.out; unfold posF at this; simpa using Nat.le_trans this (by omega))
  rwa [eB] at this
 have HKD : Hid (∀ p ∈ posF false L, p.1.kind = 1 \/ p.1.kind = 2) := hkd
 have hzA : ([] : List (Kn × Nat)).length = 0 := rfl
 rw [hzA] at hc1
 clear hk hk2 hl hl2 eA eB hzA hkd
 generalize posF false L = A at *
 generalize posF false L2 = B at *
 go_enter Try.func9, Try.ntmps9
 go_wp2_with fail
 refine hc1.mono ?_
 rintro e w1 ⟨la, lcap, xs, rfl, ho1, he1, ht1, hb1⟩
 have ht1' : Turn (fun _ => False) w w1 := ht1.mono (fun k _ h => by cases h)
 have hs1 := ht1'.size
 have hc2 := HE2.out w1 (HK2.out.turn ht1' (Nat.le_refl _) (fun _ _ _ h => h)) hs1
 have HO1 : Hid (w1.ownsRow w.heap.size 60 6 (.slice la A.length lcap) A.length xs) := ho1
 have HE1 : Hid (EndsAt w1 lo w.heap.size xs A) := he1
 have HT1 : Hid (Turn (fun _ => False) w w1) := ht1'
 clear hc1 ho1 he1 ht1 ht1' hb1
 go_wp2_with fail
 refine hc2.mono ?_
 rintro e w2 ⟨lb, lbcap, ys, rfl, ho2, he2, ht2, hb2⟩
 have ht2' : Turn (fun _ => False) w1 w2 := ht2.mono (fun k _ h => by cases h)
 have hs2 := ht2'.size
 obtain ⟨w4, hw4⟩ : ∃ w4, w4 = (w2.alloc (.map #[] 0)).alloc (.cells (big (.slice la A.length lcap) (.slice lb B.length lbcap) (.map (some w2.heap.size))) 58) := ⟨_, rfl⟩
 have ht4 : Turn (fun _ => False) w2 w4 := by rw [hw4]; exact ((Turn.refl _ _).alloc _).alloc _
 have hs4 : w4.heap.size = w2.heap.size + 2 := by rw [hw4]; simp
 have hm4 : IsCells w4 (w2.heap.size + 1) (big (.slice la A.length lcap) (.slice lb B.length lbcap) (.map (some w2.heap.size))) := by
  rw [hw4]
  have := isCells_new (w2.alloc (.map #[] 0)) (big (.slice la A.length lcap) (.slice lb B.length lbcap) (.map (some w2.heap.size))) 58
  simpa using this
 have hk4 : KMap w4 w2.heap.size (fun _ => none) := by
  rw [hw4]
  exact (KMap.made w2).of_block (Below.heap_alloc _ _ _ (by simp))
 have HO4 : Hid (w4.ownsRow w.heap.size 60 6 (.slice la A.length lcap) A.length xs) := own_of_block HO1.out (fun k hk => (ht4.block k (by have := (own_block_lt HO1.out k hk).2; omega) (fun h => h)).trans (ht2'.block k (own_block_lt HO1.out k hk).2 (fun h => h)))
 have HP4 : Hid (w4.ownsRow w1.heap.size 60 6 (.slice lb B.length lbcap) B.length ys) := own_of_block ho2 (fun k hk => ht4.block k (own_block_lt ho2 k hk).2 (fun h => h))
 have HE4 : Hid (EndsAt w4 lo w.heap.size xs A) := HE1.out.of_cells (fun b o _ hb => (World.cell?_of_block (w := w2) (a := ⟨b, o, none⟩) (ht4.block b (by omega) (fun h => h))).trans (World.cell?_of_block (w := w1) (a := ⟨b, o, none⟩) (ht2'.block b (by omega) (fun h => h))))
 have HF4 : Hid (EndsAt w4 lo w.heap.size ys B) := he2.of_cells (fun b o _ hb => World.cell?_of_block (w := w2) (a := ⟨b, o, none⟩) (ht4.block b (by omega) (fun h => h)))
 have HK4 : Hid (KMap w4 w2.heap.size (fun _ => none)) := hk4
 have HT4 : Hid (Turn (fun _ => False) w w4) := (HT1.out.trans ht2').trans ht4
 have HTU : Hid (TuAt w4 w4 (w2.heap.size + 1) A B (.slice la A.length lcap) (.slice lb B.length lbcap) (.map (some w2.heap.size)) 0 0) := TuAt.start hm4 hA hB
 have HOB : Hid (∀ b, (Value.slice la A.length lcap).ownBlock = some b -> b < w1.heap.size) := fun b hb => (own_block_lt HO1.out b hb).2
 have HPB : Hid (∀ b, (Value.slice lb B.length lbcap).ownBlock = some b -> b < w2.heap.size) := fun b hb => (own_block_lt ho2 b hb).2
 have HM4 : Hid (IsCells w4 (w2.heap.size + 1) (big (.slice la A.length lcap) (.slice lb B.length lbcap) (.map (some w2.heap.size)))) := hm4
 have HW4 : Hid (w4 = (w2.alloc (.map #[] 0)).alloc (.cells (big (.slice la A.length lcap) (.slice lb B.length lbcap) (.map (some w2.heap.size))) 58)) := hw4
 have HS4 : Hid (w4.heap.size = w2.heap.size + 2) := hs4
 obtain ⟨ZC, hZC⟩ : ∃ ZC, ZC = big (.slice none 0 0) (.slice none 0 0) (.map none) := ⟨_, rfl⟩
 have hzero : ∀ W : World, (zeroValue 58).run Try.prog W = .ok (.agg ZC) W := by rw [hZC]; exact (zero_of_info info58).1
 have hzs : ZC.size = 1027 := by rw [hZC]; exact big_size _ _ _
 have hzn : ¬ ZC = #[] := by
  intro h
  rw [h] at hzs
  simp at hzs
 have hset : ((ZC.setIfInBounds 0 (.slice la A.length lcap)).setIfInBounds 1 (.slice lb B.length lbcap)).setIfInBounds 1026 (.map (some w2.heap.size)) = big (.slice la A.length lcap) (.slice lb B.length lbcap) (.map (some w2.heap.size)) := by rw [hZC]; exact big_set _ _ _ _ _ _
 have hstore : (storeCells ⟨w2.heap.size + 1, 0, none⟩ (((ZC.toList.set 0 (.slice la A.length lcap)).set 1 (.slice lb B.length lbcap)).set 1026 (.map (some w2.heap.size)))).run Try.prog ((w2.alloc (.map #[] 0)).alloc (.cells ZC 58)) = .ok () w4 := by
  have h9 := run_storeCells_new (P := Try.prog) (w2.alloc (.map #[] 0)) 58 ZC (big (.slice la A.length lcap) (.slice lb B.length lbcap) (.map (some w2.heap.size))) (by rw [big_size]; exact (zero_of_info info58).2) (by rw [hzs, big_size]) (big_one _ _ _ rfl rfl rfl)
  rw [<- hset] at h9
  rw [hset, <- hw4] at h9
  have hsz2 : (w2.alloc (.map #[] 0)).heap.size = w2.heap.size + 1 := by simp
  rw [hsz2] at h9
  rw [<- hset, Array.toList_setIfInBounds, Array.toList_setIfInBounds, Array.toList_setIfInBounds] at h9
  exact h9
 have hmk : ∀ W : World, (Instr.makeMap 54 none).run Try.prog W = .ok (.map (some W.heap.size)) (W.alloc (.map #[] 0)) := fun W => run_makeMap 54 W
 clear hc2 ho2 he2 ht2 hb2 ht2' hw4 ht4 hm4 hk4 hs4 hZC hset HE2
 go_upto_region 2 with fail
 have hs42 : w4.heap.size = w2.heap.size + 2 := HS4.out
 have hml : w2.heap.size + 1 < w4.heap.size := by omega
 have k0 : w4.cell? ⟨w2.heap.size + 1, 0, none⟩ = some (.slice la A.length lcap) := by rw [HM4.out.cell]; exact big_0 _ _ _
 clear hstore hzero hzs hs42 hmk hzn
 go_wp2
 go_loopw [19] (fun iv wr => ∃ i : Nat, i <= A.length /\ iv = .int .i64 (i : Int) /\ Hid (TuAt w4 wr (w2.heap.size + 1) A B (.slice la A.length lcap) (.slice lb B.length lbcap) (.map (some w2.heap.size)) i 0)) (fun iv _ => A.length - (intOf iv).toNat)
 case atStart => exact ⟨0, by omega, rfl, HTU⟩
 case round =>
  obtain ⟨i, hi, rfl, hst⟩ := hrel
  clear HTU k0
  have hbs := hst.out.turn.size
  by_cases hlt : i < A.length
  ·have tl : (i : Int) < (A.length : Int) := by omega
   have t0 : (0 : Int) <= (i : Int) := by omega
   obtain ⟨p, hp⟩ : ∃ p, A[i]? = some p := ⟨_, List.getElem?_eq_getElem hlt⟩
   obtain ⟨g, aa, ac, hla, hg1, hg2, c0, c1, c2, c3, c4, c5, hat, hal⟩ := ends_get HO4.out HE4.out hp
   have hgw : g < w1.heap.size := HOB.out g (by rw [hla]; rfl)
   have hcr : ∀ o, wr.cell? ⟨g, o, none⟩ = w4.cell? ⟨g, o, none⟩ := fun o => World.cell?_of_block (w := w4) (a := ⟨g, o, none⟩) (hst.out.turn.block g hg2 (by omega))
   have d0 := (hcr _).trans c0
   have d1 := (hcr _).trans c1
   have d2 := (hcr _).trans c2
   have d3 := (hcr _).trans c3
   have d4 := (hcr _).trans c4
   have d5 := (hcr _).trans c5
   have hgr : g < wr.heap.size := by omega
   obtain ⟨cs, hcs, hcs0, hcs1, hcs2, hcs3⟩ := hst.out.cells
   have m1 : wr.cell? ⟨w2.heap.size + 1, 1, none⟩ = some (.slice lb B.length lbcap) := (hcs.cell 1).trans hcs1
   have hmr : w2.heap.size + 1 < wr.heap.size := hcs.lt
   have HPI : Hid (A[i]? = some p) := hp
   have HAT : Hid (AttrsAt w4 lo w.heap.size aa p.1.attrs) := hat
   have hpk := HKD.out p (List.mem_of_getElem? hp)
   have HST1 : Hid (TuAt w4 (wr.alloc (.cells #[.int .i64 p.1.kind, .string p.1.name, .slice aa p.1.attrs.length ac, .string p.1.text, .slice none 0 0, .int .i64 (p.2 : Int)] 60)) (w2.heap.size + 1) A B (.slice la A.length lcap) (.slice lb B.length lbcap) (.map (some w2.heap.size)) i 0) := hst.out.more (below_new' wr _)
   have HBX : Hid (IsCells (wr.alloc (.cells #[.int .i64 p.1.kind, .string p.1.name, .slice aa p.1.attrs.length ac, .string p.1.text, .slice none 0 0, .int .i64 (p.2 : Int)] 60)) wr.heap.size #[.int .i64 p.1.kind, .string p.1.name, .slice aa p.1.attrs.length ac, .string p.1.text, .slice none 0 0, .int .i64 (p.2 : Int)]) := isCells_new wr _ 60
   clear hp hat c0 c1 c2 c3 c4 c5 hcr hcs hcs0 hcs1 hcs2 hcs3
   subst hla
   generalize hbx : wr.heap.size = bx at *
   go_wp2
   go_loopw [27] (fun jv wq => ∃ j : Nat, j <= B.length /\ jv = .int .i64 (j : Int) /\ Hid (TuAt w4 wq (w2.heap.size + 1) A B (.slice (some ⟨g, 0, none⟩) A.length lcap) (.slice lb B.length lbcap) (.map (some w2.heap.size)) i j) /\ Hid (IsCells wq bx #[.int .i64 p.1.kind, .string p.1.name, .slice aa p.1.attrs.length ac, .string p.1.text, .slice none 0 0, .int .i64 (p.2 : Int)])) (fun jv _ => B.length - (intOf jv).toNat)
   case atStart => exact ⟨0, by omega, rfl, HST1, HBX⟩
   case round =>
    obtain ⟨j, hj, rfl, hsu, hbxq⟩ := hrel
    clear HST1 HBX
    have hqs := hsu.out.turn.size
    by_cases hltj : j < B.length
    ·have ul : (j : Int) < (B.length : Int) := by omega
     have u0 : (0 : Int) <= (j : Int) := by omega
     obtain ⟨q, hq⟩ : ∃ q, B[j]? = some q := ⟨_, List.getElem?_eq_getElem hltj⟩
     obtain ⟨h, aa2, ac2, hlb, hh1, hh2, e0, e1, e2, e3, e4, e5, hat2, hal2⟩ := ends_get HP4.out HF4.out hq
     have hhw : h < w2.heap.size := HPB.out h (by rw [hlb]; rfl)
     have hcq : ∀ b o, b < w4.heap.size -> b ≠ w2.heap.size + 1 -> wr.cell? ⟨b, o, none⟩ = w4.cell? ⟨b, o, none⟩ := fun b o h1 h2 => World.cell?_of_block (w := w4) (a := ⟨b, o, none⟩) (hsu.out.turn.block b h1 h2)
     have f0 := (hcq _ _ hh2 (by omega)).trans e0
     have f1 := (hcq _ _ hh2 (by omega)).trans e1
     have f2 := (hcq _ _ hh2 (by omega)).trans e2
     have f3 := (hcq _ _ hh2 (by omega)).trans e3
     have f4 := (hcq _ _ hh2 (by omega)).trans e4
     have f5 := (hcq _ _ hh2 (by omega)).trans e5
     have hhr : h < wr.heap.size := by omega
     have hatp : AttrsAt wr lo w.heap.size aa p.1.attrs := HAT.out.of_cells (fun b o _ hb => hcq b o (by omega) (by omega))
     have hatq : AttrsAt wr lo w.heap.size aa2 q.1.attrs := hat2.of_cells (fun b o _ hb => hcq b o (by omega) (by omega))
     have xc := hbxq.out.cell
     have x0 := xc 0
     have x1 := xc 1
     have x2 := xc 2
     have x3 := xc 3
     have x4 := xc 4
     have xl := hbxq.out.lt
     obtain ⟨W, hW⟩ : ∃ W, W = ((wr.alloc (.cells #[.int .i64 q.1.kind, .string q.1.name, .slice aa2 q.1.attrs.length ac2, .string q.1.text, .slice none 0 0, .int .i64 (q.2 : Int)] 60)).alloc (.cells #[.int .i64 p.1.kind, .string p.1.name, .slice aa p.1.attrs.length ac, .string p.1.text, .slice none 0 0] 36)).alloc (.cells #[.int .i64 q.1.kind, .string q.1.name, .slice aa2 q.1.attrs.length ac2, .string q.1.text, .slice none 0 0] 36) := ⟨_, rfl⟩
     have hbW : Below wr.heap.size wr W := by rw [hW]; exact ((below_new' wr _).alloc (by simp) _).alloc (by simp; omega) _
     have hsW : W.heap.size = wr.heap.size + 3 := by rw [hW]; simp
     have hxW : IsCells W (wr.heap.size + 1) #[.int .i64 p.1.kind, .string p.1.name, .slice aa p.1.attrs.length ac, .string p.1.text, .slice none 0 0] := by
      rw [hW]
      have := (isCells_new (wr.alloc (.cells #[.int .i64 q.1.kind, .string q.1.name, .slice aa2 q.1.attrs.length ac2, .string q.1.text, .slice none 0 0, .int .i64 (q.2 : Int)] 60)) #[.int .i64 p.1.kind, .string p.1.name, .slice aa p.1.attrs.length ac, .string p.1.text, .slice none 0 0] 36)
      rw [show (wr.alloc (.cells #[.int .i64 q.1.kind, .string q.1.name, .slice aa2 q.1.attrs.length ac2, .string q.1.text, .slice none 0 0, .int .i64 (q.2 : Int)] 60)).heap.size = wr.heap.size + 1 from by simp] at this
      exact this.alloc _
     have hyW : IsCells W (wr.heap.size + 2) #[.int .i64 q.1.kind, .string q.1.name, .slice aa2 q.1.attrs.length ac2, .string q.1.text, .slice none 0 0] := by
      rw [hW]
      have := isCells_new ((wr.alloc (.cells #[.int .i64 q.1.kind, .string q.1.name, .slice aa2 q.1.attrs.length ac2, .string q.1.text, .slice none 0 0, .int .i64 (q.2 : Int)] 60)).alloc (.cells #[.int .i64 p.1.kind, .string p.1.name, .slice aa p.1.attrs.length ac, .string p.1.text, .slice none 0 0] 36)) #[.int .i64 q.1.kind, .string q.1.name, .slice aa2 q.1.attrs.length ac2, .string q.1.text, .slice none 0 0] 36
      simpa using this
     have hcal := Same_two W (wr.heap.size + 1) (wr.heap.size + 2) (sameK p.1 q.1) (same_two W (wr.heap.size + 1) (wr.heap.size + 2) lo lo w.heap.size w.heap.size p.1 q.1 aa aa2 ac ac2 (by omega) (by omega) hal hal2 hpk (by omega) (by omega) (hxW.cell 0) (hxW.cell 1) (hxW.cell 2) (hxW.cell 3) (hxW.cell 4) (hatp.of_cells (fun b o _ hb => hbW.cell (p := ⟨b, o, none⟩) (show b < wr.heap.size by omega))) (hyW.cell 0) (hyW.cell 1) (hyW.cell 2) (hyW.cell 3) (hyW.cell 4) (hatq.of_cells (fun b o _ hb => hbW.cell (p := ⟨b, o, none⟩) (show b < wr.heap.size by omega))))
     have HTN : Hid (turnN A B i j = if sameK p.1 q.1 then 0 else 1) := by
      show _ = _
      unfold turnN
      rw [HPI.out, hq]
     have HBW : Hid (Below wr.heap.size wr W) := hbW
     have HWS : Hid (wr.heap.size <= W.heap.size) := by show _ <= _; omega
     rw [hW] at hcal
     have HW : Hid (W = ((wr.alloc (.cells #[.int .i64 q.1.kind, .string q.1.name, .slice aa2 q.1.attrs.length ac2, .string q.1.text, .slice none 0 0, .int .i64 (q.2 : Int)] 60)).alloc (.cells #[.int .i64 p.1.kind, .string p.1.name, .slice aa p.1.attrs.length ac, .string p.1.text, .slice none 0 0] 36)).alloc (.cells #[.int .i64 q.1.kind, .string q.1.name, .slice aa2 q.1.attrs.length ac2, .string q.1.text, .slice none 0 0] 36)) := hW
     generalize sameK p.1 q.1 = sk at *
     subst hlb
     clear hW hbW hsW hxW hyW hq hat2 hatp hatq e0 e1 e2 e3 e4 e5 hcq xc
     go_wp2_with fail
     refine hcal.mono ?_
     rw [<- HW.out]
     rintro e w5 ⟨rfl, hb5⟩
     have HSU5 : Hid (TuAt w4 w5 (w2.heap.size + 1) A B (.slice (some ⟨g, 0, none⟩) A.length lcap) (.slice (some ⟨h, 0, none⟩) B.length lbcap) (.map (some w2.heap.size)) i j) := hsu.out.more (HBW.out.trans (hb5.mono HWS.out))
     have HBX5 : Hid (IsCells w5 bx #[.int .i64 p.1.kind, .string p.1.name, .slice aa p.1.attrs.length ac, .string p.1.text, .slice none 0 0, .int .i64 (p.2 : Int)]) := hbxq.out.of_block ((hb5.block _ (Nat.lt_of_lt_of_le xl HWS.out)).trans (HBW.out.block _ xl))
     clear hcal hb5 f0 f1 f2 f3 f4 f5 x0 x1 x2 x3 x4 hsu hbxq HW HBW
     cases sk with
     | true =>
      have HSU6 : Hid (TuAt w4 w5 (w2.heap.size + 1) A B (.slice (some ⟨g, 0, none⟩) A.length lcap) (.slice (some ⟨h, 0, none⟩) B.length lbcap) (.map (some w2.heap.size)) i (j + 1)) := HSU5.out.same (by rw [HTN.out]; rfl)
      go_wp2
      go_roundw
      case rel => exact ⟨j + 1, by omega, by go_num, HSU6, HBX5⟩
      case measure => simp [intOf]; omega
     | false =>
      have HSU6 : Hid (TuAt w4 (w5.setCell ⟨w2.heap.size + 1, 2 + i * 32 + j, none⟩ (.int .i64 1)) (w2.heap.size + 1) A B (.slice (some ⟨g, 0, none⟩) A.length lcap) (.slice (some ⟨h, 0, none⟩) B.length lbcap) (.map (some w2.heap.size)) i (j + 1)) := HSU5.out.other (by rw [HTN.out]; rfl) (by omega) (by omega) hB hA
      have HBX6 : Hid (IsCells (w5.setCell ⟨w2.heap.size + 1, 2 + i * 32 + j, none⟩ (.int .i64 1)) bx #[.int .i64 p.1.kind, .string p.1.name, .slice aa p.1.attrs.length ac, .string p.1.text, .slice none 0 0, .int .i64 (p.2 : Int)]) := HBX5.out.other (by show bx ≠ w2.heap.size + 1; omega) _
      obtain ⟨cs, hcs, -, -, -, hcs3⟩ := HSU5.out.cells
      have y0 : w5.cell? ⟨w2.heap.size + 1, 2 + i * 32 + j, none⟩ = some (.int .i64 0) := (hcs.cell _).trans ((hcs3 i j hlt hltj).2 (by omega))
      have y1 := hcs.frozen (2 + i * 32 + j)
      have y2 := hcs.lt
      have v1 : (i : Int) < 32 := by omega
      have v2 : (j : Int) < 32 := by omega
      clear hcs hcs3
      go_wp2
      go_roundw
      case rel => exact ⟨j + 1, by omega, by go_num, HSU6, HBX6⟩
      case measure => simp [intOf]; omega
    ·have hje : j = B.length := by omega
     subst hje
     have HSR : Hid (TuAt w4 wr (w2.heap.size + 1) A B (.slice (some ⟨g, 0, none⟩) A.length lcap) (.slice lb B.length lbcap) (.map (some w2.heap.size)) (i + 1) 0) := hsu.out.row
     go_wp2
     go_roundw
     case rel => exact ⟨i + 1, by omega, by go_num, HSR⟩
     case measure => simp [intOf]; omega
  ·have hie : i = A.length := by omega
   subst hie
   obtain ⟨cs, hcs, hcs0, hcs1, hcs2, hcs3⟩ := hst.out.cells
   have hcr : ∀ b o, b < w4.heap.size -> b ≠ w2.heap.size + 1 -> wr.cell? ⟨b, o, none⟩ = w4.cell? ⟨b, o, none⟩ := fun b o h1 h2 => World.cell?_of_block (w := w4) (a := ⟨b, o, none⟩) (hst.out.turn.block b h1 h2)
   have hmet : MetAt wr (w2.heap.size + 1) w2.heap.size A B (fun _ => none) := by
    refine ⟨fun i x hx => ?_, fun i x hx => ?_, fun i j hi hj => (hcs.cell _).trans ((hcs3 i j hi hj).1 (by omega)), (hcs.cell _).trans hcs2, hcs.lt, by omega, HK4.out.of_block (hst.out.turn.block _ (by omega) (by omega)), fun a b c d v _ _ _ _ h => by cases h⟩
    ·obtain ⟨g, aa, ac, hla, hg1, hg2, -, -, -, -, -, c5, -, -⟩ := ends_get HO4.out HE4.out hx
     have hgw : g < w1.heap.size := HOB.out g (by rw [hla]; rfl)
     exact ⟨g, lcap, by rw [hcs.cell, hcs0, hla], by omega, by omega, (hcr _ _ hg2 (by omega)).trans c5⟩
    ·obtain ⟨g, aa, ac, hlb, hg1, hg2, -, -, -, -, -, c5, -, -⟩ := ends_get HP4.out HF4.out hx
     have hgw : g < w2.heap.size := HPB.out g (by rw [hlb]; rfl)
     exact ⟨g, lbcap, by rw [hcs.cell, hcs1, hlb], by omega, by omega, (hcr _ _ hg2 (by omega)).trans c5⟩
   have hap := apart_any (w2.heap.size + 1) w2.heap.size A B HWA.out HWB.out hA hB (A.length + B.length) wr 0 A.length 0 B.length ⟨_, hmet⟩ (Cl.all A) (Cl.all B) (by omega)
   have m0 : wr.cell? ⟨w2.heap.size + 1, 0, none⟩ = some (.slice la A.length lcap) := (hcs.cell 0).trans hcs0
   have m1 : wr.cell? ⟨w2.heap.size + 1, 1, none⟩ = some (.slice lb B.length lbcap) := (hcs.cell 1).trans hcs1
   have HT9 : Hid (Below w.heap.size w wr) := ((HT4.out.mono (B := fun b => b = w2.heap.size + 1) (fun _ _ h => h.elim)).trans hst.out.turn).below (Nat.le_refl _) (fun k hk => by omega)
   have hmlr := hcs.lt
   clear hmet hcr hcs hcs0 hcs1 hcs2 hcs3 hst hlt
   go_wp2_with fail
   refine hap.mono ?_
   rintro e w9 ⟨rfl, ht9, -⟩
   have HB9' : Hid (Below w.heap.size w w9) := HT9.out.trans (ht9.below (by omega) (fun k hk => by omega))
   clear hap ht9
   go_wp2
   go_ret
   exact ⟨rfl, HB9'.out⟩
def InsP (w : World) (ro : Nat -> Nat) (db : Nat) (D' : Dc) (h : Nat) (z : Int) (e : Ending) (w' : World) : Prop :=
 e = .returned (.tuple #[.int .u64 (h : Int), .int .i64 z]) /\ Turn (fun b => ro b ≠ 0) w w' /\ ∃ ro', PDoc w' ro' db D' /\ ∀ b, ro' b ≠ 0 -> ro b ≠ 0 \/ w.heap.size <= b
theorem insp_same {w w' : World} {ro : Nat -> Nat} {db : Nat} {D : Dc} {z : Int} (h : PDoc w ro db D) (hb : Below w.heap.size w w') : InsP w ro db D 0 z (.returned (.tuple #[.int .u64 0, .int .i64 z])) w' :=
 ⟨rfl, (Turn.refl _ _).then hb (Nat.le_refl _), ro, h.turn (A := fun _ => False) ((Turn.refl _ _).then hb (Nat.le_refl _)) (fun _ _ => not_false), fun b hb => .inl hb⟩
theorem ins_place (n : Nat) (w : World) (v : Array Value) (t : T n) (lo hi : Nat) (ro : Nat -> Nat) (db a : Nat) (wh : Int) (D : Dc) (h : TreeAt w lo hi n v t) (hsz : hi <= w.heap.size) (hro : ∀ b, ro b ≠ 0 -> ¬ (lo <= b /\ b < hi)) (hd : PDoc w ro db D) (hw : WF D) (hal : a < 18446744073709551616) (hpl : isPlaceB wh a = false) :
  Calls Try.prog 24 #[.pointer (some ⟨db, 0, none⟩), .int .i64 wh, .int .u64 (a : Int), .agg v] w (InsP w ro db D 0 1) := by
 have hv := hd.view
 have hpc := fun W => isPlace_any W wh a
 have HD : Hid (PDoc w ro db D) := hd
 obtain ⟨tk, nm, aa, al, ac, tx, ka, kl, kc, rfl⟩ := h.form
 have HBX : Hid (Below w.heap.size w (w.alloc (.cells #[.int .i64 tk, .string nm, .slice aa al ac, .string tx, .slice ka kl kc] 36))) := below_new' w _
 have HBC : Hid (IsCells (w.alloc (.cells #[.int .i64 tk, .string nm, .slice aa al ac, .string tx, .slice ka kl kc] 36)) w.heap.size #[.int .i64 tk, .string nm, .slice aa al ac, .string tx, .slice ka kl kc]) := isCells_new w _ _
 rw [hpl] at hpc
 clear hd hv h hw
 go_enter Try.func24, Try.ntmps24
 go_wp2_with fail
 refine (hpc _).mono ?_
 rintro e w1 ⟨rfl, rfl⟩
 clear hpc
 go_wp2
 go_ret2
 exact insp_same HD.out HBX.out
theorem ins_check (n : Nat) (w : World) (v : Array Value) (t : T n) (lo hi : Nat) (ro : Nat -> Nat) (db a : Nat) (wh : Int) (D : Dc) (h : TreeAt w lo hi n v t) (hsz : hi <= w.heap.size) (hro : ∀ b, ro b ≠ 0 -> ¬ (lo <= b /\ b < hi)) (hd : PDoc w ro db D) (hw : WF D) (hal : a < 18446744073709551616) (hpl : isPlaceB wh a = true) (hcz : (chk n t 1 0).2 ≠ 0) :
  Calls Try.prog 24 #[.pointer (some ⟨db, 0, none⟩), .int .i64 wh, .int .u64 (a : Int), .agg v] w (InsP w ro db D 0 (chk n t 1 0).2) := by
 have hv := hd.view
 have hpc := fun W => isPlace_any W wh a
 have HD : Hid (PDoc w ro db D) := hd
 obtain ⟨tk, nm, aa, al, ac, tx, ka, kl, kc, rfl⟩ := h.form
 have HBX : Hid (Below w.heap.size w (w.alloc (.cells #[.int .i64 tk, .string nm, .slice aa al ac, .string tx, .slice ka kl kc] 36))) := below_new' w _
 have HBC : Hid (IsCells (w.alloc (.cells #[.int .i64 tk, .string nm, .slice aa al ac, .string tx, .slice ka kl kc] 36)) w.heap.size #[.int .i64 tk, .string nm, .slice aa al ac, .string tx, .slice ka kl kc]) := isCells_new w _ _
 have hck := fun W (hb : Below w.heap.size w W) => Check_any n W _ t lo hi (h.below hb hsz) (Nat.le_trans hsz hb.size)
 rw [hpl] at hpc
 generalize (chk n t 1 0).2 = z at *
 have hzb : (z == 0) = false := beq_eq_false_iff_ne.2 hcz
 clear hd hv h hw
 go_enter Try.func24, Try.ntmps24
 go_wp2_with fail
 refine (hpc _).mono ?_
 rintro e w1 ⟨rfl, rfl⟩
 clear hpc
 have hck1 := hck _ HBX.out
 clear hck
 go_wp2_with fail
 refine hck1.mono ?_
 rintro e w2 ⟨rfl, hb⟩
 have HB2 : Hid (Below w.heap.size w w2) := HBX.out.trans (hb.mono HBX.out.size)
 have HC2 : Hid (IsCells w2 w.heap.size #[.int .i64 tk, .string nm, .slice aa al ac, .string tx, .slice ka kl kc]) := HBC.out.of_block (hb.block w.heap.size (by simp))
 clear hb hck1
 go_wp2
 go_ret2
 exact insp_same HD.out HB2.out
theorem ins_live (n : Nat) (w : World) (v : Array Value) (t : T n) (lo hi : Nat) (ro : Nat -> Nat) (db a : Nat) (wh : Int) (D : Dc) (h : TreeAt w lo hi n v t) (hsz : hi <= w.heap.size) (hro : ∀ b, ro b ≠ 0 -> ¬ (lo <= b /\ b < hi)) (hd : PDoc w ro db D) (hw : WF D) (hal : a < 18446744073709551616) (hpl : isPlaceB wh a = true) (hcz : (chk n t 1 0).2 = 0) (hla : liveB D a = false) :
  Calls Try.prog 24 #[.pointer (some ⟨db, 0, none⟩), .int .i64 wh, .int .u64 (a : Int), .agg v] w (InsP w ro db D 0 8) := by
 have hv := hd.view
 have hpc := fun W => isPlace_any W wh a
 have HD : Hid (PDoc w ro db D) := hd
 obtain ⟨tk, nm, aa, al, ac, tx, ka, kl, kc, rfl⟩ := h.form
 have HBX : Hid (Below w.heap.size w (w.alloc (.cells #[.int .i64 tk, .string nm, .slice aa al ac, .string tx, .slice ka kl kc] 36))) := below_new' w _
 have HBC : Hid (IsCells (w.alloc (.cells #[.int .i64 tk, .string nm, .slice aa al ac, .string tx, .slice ka kl kc] 36)) w.heap.size #[.int .i64 tk, .string nm, .slice aa al ac, .string tx, .slice ka kl kc]) := isCells_new w _ _
 have hck := fun W (hb : Below w.heap.size w W) => Check_any n W _ t lo hi (h.below hb hsz) (Nat.le_trans hsz hb.size)
 have hlv := fun W (hb : Below w.heap.size w W) => isLive_any W _ db D a (hv.below hb) hw.fits hal
 rw [hpl] at hpc
 rw [hcz] at hck
 rw [hla] at hlv
 clear hd hv h hw hcz hla
 go_enter Try.func24, Try.ntmps24
 go_wp2_with fail
 refine (hpc _).mono ?_
 rintro e w1 ⟨rfl, rfl⟩
 clear hpc
 have hck1 := hck _ HBX.out
 clear hck
 go_wp2_with fail
 refine hck1.mono ?_
 rintro e w2 ⟨rfl, hb⟩
 have HB2 : Hid (Below w.heap.size w w2) := HBX.out.trans (hb.mono HBX.out.size)
 have HC2 : Hid (IsCells w2 w.heap.size #[.int .i64 tk, .string nm, .slice aa al ac, .string tx, .slice ka kl kc]) := HBC.out.of_block (hb.block w.heap.size (by simp))
 clear hb hck1
 have hlv2 := hlv w2 HB2.out
 clear hlv
 go_wp2_with fail
 refine hlv2.mono ?_
 rintro e w3 ⟨rfl, hb⟩
 have HB3 : Hid (Below w.heap.size w w3) := HB2.out.trans (hb.mono HB2.out.size)
 have HC3 : Hid (IsCells w3 w.heap.size #[.int .i64 tk, .string nm, .slice aa al ac, .string tx, .slice ka kl kc]) := HC2.out.of_block (hb.block w.heap.size HC2.out.lt)
 clear hb hlv2
 go_wp2
 go_ret2
 exact insp_same HD.out HB3.out
theorem ins_fits (n : Nat) (w : World) (v : Array Value) (t : T n) (lo hi : Nat) (ro : Nat -> Nat) (db a : Nat) (wh : Int) (D : Dc) (h : TreeAt w lo hi n v t) (hsz : hi <= w.heap.size) (hro : ∀ b, ro b ≠ 0 -> ¬ (lo <= b /\ b < hi)) (hd : PDoc w ro db D) (hw : WF D) (hal : a < 18446744073709551616) (hpl : isPlaceB wh a = true) (hcz : (chk n t 1 0).2 = 0) (hla : liveB D a = true) (hN4 : ndT n t <= 4096) (hfz : fitsE D (arD D wh a) (htT n t) ≠ 0) :
  Calls Try.prog 24 #[.pointer (some ⟨db, 0, none⟩), .int .i64 wh, .int .u64 (a : Int), .agg v] w (InsP w ro db D 0 (fitsE D (arD D wh a) (htT n t))) := by
 have hv := hd.view
 have hpc := fun W => isPlace_any W wh a
 have HD : Hid (PDoc w ro db D) := hd
 obtain ⟨tk, nm, aa, al, ac, tx, ka, kl, kc, rfl⟩ := h.form
 have HBX : Hid (Below w.heap.size w (w.alloc (.cells #[.int .i64 tk, .string nm, .slice aa al ac, .string tx, .slice ka kl kc] 36))) := below_new' w _
 have HBC : Hid (IsCells (w.alloc (.cells #[.int .i64 tk, .string nm, .slice aa al ac, .string tx, .slice ka kl kc] 36)) w.heap.size #[.int .i64 tk, .string nm, .slice aa al ac, .string tx, .slice ka kl kc]) := isCells_new w _ _
 have hck := fun W (hb : Below w.heap.size w W) => Check_any n W _ t lo hi (h.below hb hsz) (Nat.le_trans hsz hb.size)
 have hlv := fun W (hb : Below w.heap.size w W) => isLive_any W _ db D a (hv.below hb) hw.fits hal
 obtain ⟨o1, o2, o3⟩ := chk_ok n t 1 0 (by omega) (by omega) (by omega) hcz
 have hn1 : 1 <= ndT n t := by
  cases n with
  | zero => cases t
  | succ n => exact ndT_pos n t
 have hn4 : ndT n t <= 4096 := hN4
 obtain ⟨lv, hlv0⟩ := hw.lev
 have hlive := live_of hla
 have hwl : wh = 3 \/ wh = 4 -> ∃ t, sl D a = some t := fun h => by
  refine hlive.resolve_left (fun e => ?_)
  subst e
  rcases h with rfl | rfl <;> simp [isPlaceB] at hpl
 have hpp : arD D wh a = 0 \/ ∃ t, sl D (arD D wh a) = some t := by
  unfold arD
  split
  ·rename_i h
   obtain ⟨t, ht⟩ := hwl h
   have := (dep_par hlv0 ht).2
   simpa [par, ht] using this
  ·exact hlive
 have hal' : arD D wh a < 18446744073709551616 := by
  rcases hpp with e | ⟨t, ht⟩
  ·omega
  ·exact (hw.lt ht).1
 have har := fun W (hb : Below w.heap.size w W) => around_any W _ db D wh a (hv.below hb) hw.fits hal hwl
 have hme := fun W (hb : Below w.heap.size w W) => measure_any n W _ t lo hi (h.below hb hsz) (Nat.le_trans hsz hb.size) o1 hn4 (by omega)
 have hfi := fun W (hb : Below w.heap.size w W) => fits_any W _ db D (arD D wh a) (htT n t) (hv.below hb) hw hpp (by omega) _ rfl
 have hfe := fun W (hb : Below w.heap.size w W) => pfree_any W _ db D (ndT n t) (hv.below hb) hw.fits hn4
 rw [hpl] at hpc
 rw [hcz] at hck
 rw [hla] at hlv
 generalize fitsE D (arD D wh a) (htT n t) = z at *
 generalize arD D wh a = p at *
 generalize htT n t = ht at *
 generalize ndT n t = nd at *
 have hzb : (z == 0) = false := beq_eq_false_iff_ne.2 hfz
 clear hd hv h hw hcz hla hfe o1 o2 hlv0 hwl hpp hlive
 go_enter Try.func24, Try.ntmps24
 go_wp2_with fail
 refine (hpc _).mono ?_
 rintro e w1 ⟨rfl, rfl⟩
 clear hpc
 have hck1 := hck _ HBX.out
 clear hck
 go_wp2_with fail
 refine hck1.mono ?_
 rintro e w2 ⟨rfl, hb⟩
 have HB2 : Hid (Below w.heap.size w w2) := HBX.out.trans (hb.mono HBX.out.size)
 have HC2 : Hid (IsCells w2 w.heap.size #[.int .i64 tk, .string nm, .slice aa al ac, .string tx, .slice ka kl kc]) := HBC.out.of_block (hb.block w.heap.size (by simp))
 clear hb hck1
 have hlv2 := hlv w2 HB2.out
 clear hlv
 go_wp2_with fail
 refine hlv2.mono ?_
 rintro e w3 ⟨rfl, hb⟩
 have HB3 : Hid (Below w.heap.size w w3) := HB2.out.trans (hb.mono HB2.out.size)
 have HC3 : Hid (IsCells w3 w.heap.size #[.int .i64 tk, .string nm, .slice aa al ac, .string tx, .slice ka kl kc]) := HC2.out.of_block (hb.block w.heap.size HC2.out.lt)
 clear hb hlv2
 have har3 := har w3 HB3.out
 clear har
 go_wp2_with fail
 refine har3.mono ?_
 rintro e w4 ⟨rfl, hb⟩
 have HB4 : Hid (Below w.heap.size w w4) := HB3.out.trans (hb.mono HB3.out.size)
 have HC4 : Hid (IsCells w4 w.heap.size #[.int .i64 tk, .string nm, .slice aa al ac, .string tx, .slice ka kl kc]) := HC3.out.of_block (hb.block w.heap.size HC3.out.lt)
 clear hb har3
 have hx0 := HC4.out.cell 0
 have hx1 := HC4.out.cell 1
 have hx2 := HC4.out.cell 2
 have hx3 := HC4.out.cell 3
 have hx4 := HC4.out.cell 4
 simp at hx0 hx1 hx2 hx3 hx4
 have hme4 := hme w4 HB4.out
 clear hme
 go_wp2_with fail
 refine hme4.mono ?_
 rintro e w5 ⟨rfl, hb⟩
 have HB5 : Hid (Below w.heap.size w w5) := HB4.out.trans (hb.mono HB4.out.size)
 have HC5 : Hid (IsCells w5 w.heap.size #[.int .i64 tk, .string nm, .slice aa al ac, .string tx, .slice ka kl kc]) := HC4.out.of_block (hb.block w.heap.size HC4.out.lt)
 clear hb hme4 hx0 hx1 hx2 hx3 hx4
 have hfi5 := hfi w5 HB5.out
 clear hfi
 go_wp2_with fail
 refine hfi5.mono ?_
 rintro e w6 ⟨rfl, hb⟩
 have HB6 : Hid (Below w.heap.size w w6) := HB5.out.trans (hb.mono HB5.out.size)
 have HC6 : Hid (IsCells w6 w.heap.size #[.int .i64 tk, .string nm, .slice aa al ac, .string tx, .slice ka kl kc]) := HC5.out.of_block (hb.block w.heap.size HC5.out.lt)
 clear hb hfi5
 go_wp2
 go_ret2
 exact insp_same HD.out HB6.out
theorem ins_many (n : Nat) (w : World) (v : Array Value) (t : T n) (lo hi : Nat) (ro : Nat -> Nat) (db a : Nat) (wh : Int) (D : Dc) (h : TreeAt w lo hi n v t) (hsz : hi <= w.heap.size) (hro : ∀ b, ro b ≠ 0 -> ¬ (lo <= b /\ b < hi)) (hd : PDoc w ro db D) (hw : WF D) (hal : a < 18446744073709551616) (hpl : isPlaceB wh a = true) (hcz : (chk n t 1 0).2 = 0) (hla : liveB D a = true) (hN4 : ndT n t <= 4096) (hfz : fitsE D (arD D wh a) (htT n t) = 0) (hmn : 4096 < cnt takenB D.S + ndT n t) :
  Calls Try.prog 24 #[.pointer (some ⟨db, 0, none⟩), .int .i64 wh, .int .u64 (a : Int), .agg v] w (InsP w ro db D 0 33) := by
 have hv := hd.view
 have hpc := fun W => isPlace_any W wh a
 have HD : Hid (PDoc w ro db D) := hd
 obtain ⟨tk, nm, aa, al, ac, tx, ka, kl, kc, rfl⟩ := h.form
 have HBX : Hid (Below w.heap.size w (w.alloc (.cells #[.int .i64 tk, .string nm, .slice aa al ac, .string tx, .slice ka kl kc] 36))) := below_new' w _
 have HBC : Hid (IsCells (w.alloc (.cells #[.int .i64 tk, .string nm, .slice aa al ac, .string tx, .slice ka kl kc] 36)) w.heap.size #[.int .i64 tk, .string nm, .slice aa al ac, .string tx, .slice ka kl kc]) := isCells_new w _ _
 have hck := fun W (hb : Below w.heap.size w W) => Check_any n W _ t lo hi (h.below hb hsz) (Nat.le_trans hsz hb.size)
 have hlv := fun W (hb : Below w.heap.size w W) => isLive_any W _ db D a (hv.below hb) hw.fits hal
 obtain ⟨o1, o2, o3⟩ := chk_ok n t 1 0 (by omega) (by omega) (by omega) hcz
 have hn1 : 1 <= ndT n t := by
  cases n with
  | zero => cases t
  | succ n => exact ndT_pos n t
 have hn4 : ndT n t <= 4096 := hN4
 obtain ⟨lv, hlv0⟩ := hw.lev
 have hlive := live_of hla
 have hwl : wh = 3 \/ wh = 4 -> ∃ t, sl D a = some t := fun h => by
  refine hlive.resolve_left (fun e => ?_)
  subst e
  rcases h with rfl | rfl <;> simp [isPlaceB] at hpl
 have hpp : arD D wh a = 0 \/ ∃ t, sl D (arD D wh a) = some t := by
  unfold arD
  split
  ·rename_i h
   obtain ⟨t, ht⟩ := hwl h
   have := (dep_par hlv0 ht).2
   simpa [par, ht] using this
  ·exact hlive
 have hal' : arD D wh a < 18446744073709551616 := by
  rcases hpp with e | ⟨t, ht⟩
  ·omega
  ·exact (hw.lt ht).1
 have har := fun W (hb : Below w.heap.size w W) => around_any W _ db D wh a (hv.below hb) hw.fits hal hwl
 have hme := fun W (hb : Below w.heap.size w W) => measure_any n W _ t lo hi (h.below hb hsz) (Nat.le_trans hsz hb.size) o1 hn4 (by omega)
 have hfi := fun W (hb : Below w.heap.size w W) => fits_any W _ db D (arD D wh a) (htT n t) (hv.below hb) hw hpp (by omega) _ rfl
 have hfe := fun W (hb : Below w.heap.size w W) => pfree_any W _ db D (ndT n t) (hv.below hb) hw.fits hn4
 rw [hpl] at hpc
 rw [hcz] at hck
 rw [hla] at hlv
 rw [hfz] at hfi
 have hfl : ((frL D).take (ndT n t)).length < ndT n t := by
  have := frL_len hw.fits
  rw [List.length_take]
  omega
 generalize (frL D).take (ndT n t) = FL at *
 generalize arD D wh a = p at *
 generalize htT n t = ht at *
 generalize ndT n t = nd at *
 generalize hFN : FL.length = fn at *
 have hflb : (fn : Int) < (nd : Int) := by omega
 clear hd hv h hw hcz hla o1 o2 hlv0 hwl hpp hlive hmn hfz
 go_enter Try.func24, Try.ntmps24
 go_wp2_with fail
 refine (hpc _).mono ?_
 rintro e w1 ⟨rfl, rfl⟩
 clear hpc
 have hck1 := hck _ HBX.out
 clear hck
 go_wp2_with fail
 refine hck1.mono ?_
 rintro e w2 ⟨rfl, hb⟩
 have HB2 : Hid (Below w.heap.size w w2) := HBX.out.trans (hb.mono HBX.out.size)
 have HC2 : Hid (IsCells w2 w.heap.size #[.int .i64 tk, .string nm, .slice aa al ac, .string tx, .slice ka kl kc]) := HBC.out.of_block (hb.block w.heap.size (by simp))
 clear hb hck1
 have hlv2 := hlv w2 HB2.out
 clear hlv
 go_wp2_with fail
 refine hlv2.mono ?_
 rintro e w3 ⟨rfl, hb⟩
 have HB3 : Hid (Below w.heap.size w w3) := HB2.out.trans (hb.mono HB2.out.size)
 have HC3 : Hid (IsCells w3 w.heap.size #[.int .i64 tk, .string nm, .slice aa al ac, .string tx, .slice ka kl kc]) := HC2.out.of_block (hb.block w.heap.size HC2.out.lt)
 clear hb hlv2
 have har3 := har w3 HB3.out
 clear har
 go_wp2_with fail
 refine har3.mono ?_
 rintro e w4 ⟨rfl, hb⟩
 have HB4 : Hid (Below w.heap.size w w4) := HB3.out.trans (hb.mono HB3.out.size)
 have HC4 : Hid (IsCells w4 w.heap.size #[.int .i64 tk, .string nm, .slice aa al ac, .string tx, .slice ka kl kc]) := HC3.out.of_block (hb.block w.heap.size HC3.out.lt)
 clear hb har3
 have hx0 := HC4.out.cell 0
 have hx1 := HC4.out.cell 1
 have hx2 := HC4.out.cell 2
 have hx3 := HC4.out.cell 3
 have hx4 := HC4.out.cell 4
 simp at hx0 hx1 hx2 hx3 hx4
 have hme4 := hme w4 HB4.out
 clear hme
 go_wp2_with fail
 refine hme4.mono ?_
 rintro e w5 ⟨rfl, hb⟩
 have HB5 : Hid (Below w.heap.size w w5) := HB4.out.trans (hb.mono HB4.out.size)
 have HC5 : Hid (IsCells w5 w.heap.size #[.int .i64 tk, .string nm, .slice aa al ac, .string tx, .slice ka kl kc]) := HC4.out.of_block (hb.block w.heap.size HC4.out.lt)
 clear hb hme4 hx0 hx1 hx2 hx3 hx4
 have hfi5 := hfi w5 HB5.out
 clear hfi
 go_wp2_with fail
 refine hfi5.mono ?_
 rintro e w6 ⟨rfl, hb⟩
 have HB6 : Hid (Below w.heap.size w w6) := HB5.out.trans (hb.mono HB5.out.size)
 have HC6 : Hid (IsCells w6 w.heap.size #[.int .i64 tk, .string nm, .slice aa al ac, .string tx, .slice ka kl kc]) := HC5.out.of_block (hb.block w.heap.size HC5.out.lt)
 clear hb hfi5
 have hfe6 := hfe w6 HB6.out
 clear hfe
 go_wp2_with fail
 refine hfe6.mono ?_
 rintro e w7 ⟨fa, fc, rfl, hown, hb⟩
 rw [hFN]
 have HB7 : Hid (Below w.heap.size w w7) := HB6.out.trans (hb.mono HB6.out.size)
 have HC7 : Hid (IsCells w7 w.heap.size #[.int .i64 tk, .string nm, .slice aa al ac, .string tx, .slice ka kl kc]) := HC6.out.of_block (hb.block w.heap.size HC6.out.lt)
 have HB8 : Hid (Below w.heap.size w (w7.alloc (.cells #[.slice fa fn fc] 39))) := HB7.out.alloc HB7.out.size _
 clear hown hb hfe6 hFN
 go_wp2
 go_ret2
 exact insp_same HD.out HB8.out
theorem ins_ok (n : Nat) (w : World) (v : Array Value) (t : T n) (lo hi : Nat) (ro : Nat -> Nat) (db a : Nat) (wh : Int) (D : Dc) (h : TreeAt w lo hi n v t) (hsz : hi <= w.heap.size) (hro : ∀ b, ro b ≠ 0 -> ¬ (lo <= b /\ b < hi)) (hd : PDoc w ro db D) (hw : WF D) (hal : a < 18446744073709551616) (hz : insE D wh a n t = 0) (hpl : isPlaceB wh a = true) (hcz : (chk n t 1 0).2 = 0) (hla : liveB D a = true) (hN4 : ndT n t <= 4096) (hfz : fitsE D (arD D wh a) (htT n t) = 0) :
  Calls Try.prog 24 #[.pointer (some ⟨db, 0, none⟩), .int .i64 wh, .int .u64 (a : Int), .agg v] w (InsP w ro db (putD (growD n t (arD D wh a) D).1 (growD n t (arD D wh a) D).2 (arD D wh a) wh a) (growD n t (arD D wh a) D).2 0) := by
 have hv := hd.view
 have hpc := fun W => isPlace_any W wh a
 have HD : Hid (PDoc w ro db D) := hd
 obtain ⟨tk, nm, aa, al, ac, tx, ka, kl, kc, rfl⟩ := h.form
 have HBX : Hid (Below w.heap.size w (w.alloc (.cells #[.int .i64 tk, .string nm, .slice aa al ac, .string tx, .slice ka kl kc] 36))) := below_new' w _
 have HBC : Hid (IsCells (w.alloc (.cells #[.int .i64 tk, .string nm, .slice aa al ac, .string tx, .slice ka kl kc] 36)) w.heap.size #[.int .i64 tk, .string nm, .slice aa al ac, .string tx, .slice ka kl kc]) := isCells_new w _ _
 have hck := fun W (hb : Below w.heap.size w W) => Check_any n W _ t lo hi (h.below hb hsz) (Nat.le_trans hsz hb.size)
 have hlv := fun W (hb : Below w.heap.size w W) => isLive_any W _ db D a (hv.below hb) hw.fits hal
 obtain ⟨o1, o2, o3⟩ := chk_ok n t 1 0 (by omega) (by omega) (by omega) hcz
 have hn1 : 1 <= ndT n t := by
  cases n with
  | zero => cases t
  | succ n => exact ndT_pos n t
 have hn4 : ndT n t <= 4096 := hN4
 obtain ⟨lv, hlv0⟩ := hw.lev
 have hlive := live_of hla
 have hwl : wh = 3 \/ wh = 4 -> ∃ t, sl D a = some t := fun h => by
  refine hlive.resolve_left (fun e => ?_)
  subst e
  rcases h with rfl | rfl <;> simp [isPlaceB] at hpl
 have hpp : arD D wh a = 0 \/ ∃ t, sl D (arD D wh a) = some t := by
  unfold arD
  split
  ·rename_i h
   obtain ⟨t, ht⟩ := hwl h
   have := (dep_par hlv0 ht).2
   simpa [par, ht] using this
  ·exact hlive
 have hal' : arD D wh a < 18446744073709551616 := by
  rcases hpp with e | ⟨t, ht⟩
  ·omega
  ·exact (hw.lt ht).1
 have har := fun W (hb : Below w.heap.size w W) => around_any W _ db D wh a (hv.below hb) hw.fits hal hwl
 have hme := fun W (hb : Below w.heap.size w W) => measure_any n W _ t lo hi (h.below hb hsz) (Nat.le_trans hsz hb.size) o1 hn4 (by omega)
 have hfi := fun W (hb : Below w.heap.size w W) => fits_any W _ db D (arD D wh a) (htT n t) (hv.below hb) hw hpp (by omega) _ rfl
 have hfe := fun W (hb : Below w.heap.size w W) => pfree_any W _ db D (ndT n t) (hv.below hb) hw.fits hn4
 have hmk : ∀ (f : Fn) (first cap : Array Value) (w : World), (Instr.makeFunc f first cap).run Try.prog w = .ok (.func f first cap) w := fun _ _ _ _ => rfl
 obtain ⟨e1, e2, e3, e4, e5⟩ := insE_ok hz
 obtain ⟨f1, f2, f3, f4⟩ := place_facts hw e3 e1
 obtain ⟨N, hgn, sn, k1, k2⟩ := ins_grown hw hz
 rw [f3] at f1 f4 hgn k1 k2
 have HPUT := putD_same (wh := wh) (a := a) k1 k2
 have haN : a ∉ N := hgn.notin hlive
 have hpN : arD D wh a ∉ N := hgn.notin hpp
 have hslA : sl (growD n t (arD D wh a) D).1 a = sl D a := hgn.old a haN
 have hlE : lst (growD n t (arD D wh a) D).1 (arD D wh a) = lst D (arD D wh a) := hgn.lst_old hpN
 have harE : arD (growD n t (arD D wh a) D).1 wh a = arD D wh a := by
  show (if wh = 3 \/ wh = 4 then par _ a else a) = (if wh = 3 \/ wh = 4 then par D a else a)
  unfold par
  rw [hslA]
 have hppE : arD D wh a = 0 \/ ∃ s, sl (growD n t (arD D wh a) D).1 (arD D wh a) = some s := hpp.imp id (fun ⟨s, hs⟩ => ⟨s, by rw [hgn.old _ hpN]; exact hs⟩)
 have hwhE : wh = 1 \/ wh = 2 \/ ((wh = 3 \/ wh = 4) /\ a ∈ lst (growD n t (arD D wh a) D).1 (arD D wh a) /\ ∃ s, sl (growD n t (arD D wh a) D).1 a = some s) := by
  rcases f4 with h | h | ⟨h1, h2⟩
  ·exact .inl h
  ·exact .inr (.inl h)
  ·exact .inr (.inr ⟨h1, by rw [hlE]; exact h2, by rw [hslA]; exact hwl h1⟩)
 have hllE : (lst (growD n t (arD D wh a) D).1 (arD D wh a)).length <= 4096 := by rw [hlE]; exact lst_len hw hpp
 have HLK : Hid (∀ W roW, PDoc W roW db (growD n t (arD D wh a) D).1 -> Calls Try.prog 39 #[.pointer (some ⟨db, 0, none⟩), .int .u64 ((growD n t (arD D wh a) D).2 : Int), .int .i64 wh, .int .u64 (a : Int)] W (LinkP W roW db (putD (growD n t (arD D wh a) D).1 (growD n t (arD D wh a) D).2 (arD D wh a) wh a))) := fun W roW hW => by
  rw [HPUT]
  exact link_any W roW db _ _ a (arD D wh a) wh hW hgn.sane.fits hal hal' hppE hllE harE hwhE
 have hfl : ((frL D).take (ndT n t)).length = ndT n t := by
  have := frL_len hw.fits
  rw [List.length_take]
  omega
 have HLT : Hid (∀ b, ro b ≠ 0 -> b < w.heap.size) := hv.lt
 have HGA : Hid (∀ W fb fg, Below w.heap.size w W -> FrAt W fb fg ((frL D).take (ndT n t)) -> w.heap.size <= fb -> w.heap.size <= fg -> Calls Try.prog 37 #[.pointer (some ⟨db, 0, none⟩), .agg #[.int .i64 tk, .string nm, .slice aa al ac, .string tx, .slice ka kl kc], .int .u64 (arD D wh a : Int), .func (.func 38) #[] #[.pointer (some ⟨fb, 0, none⟩)]] W (GrowP W ro db fb fg (growD n t (arD D wh a) D).1 (growD n t (arD D wh a) D).2 (((frL D).take (ndT n t)).drop (ndT n t)))) := fun W fb fg hb hf h1 h2 => by
  have hz : ∀ b, w.heap.size <= b -> ro b = 0 := fun b hb => by
   by_cases e : ro b = 0
   ·exact e
   ·have := HLT.out b e
    omega
  exact grow_any n W _ t lo hi (arD D wh a) ro db fb fg (ndT n t) D (h.below hb hsz) (Nat.le_trans hsz hb.size) hro (Nat.le_trans hsz h1) (HD.out.turn (A := fun _ => False) ((Turn.refl _ _).then hb (Nat.le_refl _)) (fun _ _ => not_false)) hf (Nat.le_refl _) ⟨hz fb h1, hz fg h2⟩ hw.sane e5 hpp hal' o1
 rw [hpl] at hpc
 rw [hcz] at hck
 rw [hla] at hlv
 rw [hfz] at hfi
 generalize hFL : (frL D).take (ndT n t) = FL at *
 generalize hnd : ndT n t = nd at *
 generalize htT n t = ht at *
 generalize (growD n t (arD D wh a) D).1 = E at *
 generalize (growD n t (arD D wh a) D).2 = H at *
 generalize arD D wh a = p at *
 clear hd hv h hw hcz hla o1 o2 hlv0 hwl hpp hlive hfz hnd hFL hz e1 e2 e3 e4 e5 f1 f2 f3 f4 hgn k1 k2 HPUT haN hpN hslA hlE harE hppE hwhE hllE hro
 go_enter Try.func24, Try.ntmps24
 go_wp2_with fail
 refine (hpc _).mono ?_
 rintro e w1 ⟨rfl, rfl⟩
 clear hpc
 have hck1 := hck _ HBX.out
 clear hck
 go_wp2_with fail
 refine hck1.mono ?_
 rintro e w2 ⟨rfl, hb⟩
 have HB2 : Hid (Below w.heap.size w w2) := HBX.out.trans (hb.mono HBX.out.size)
 have HC2 : Hid (IsCells w2 w.heap.size #[.int .i64 tk, .string nm, .slice aa al ac, .string tx, .slice ka kl kc]) := HBC.out.of_block (hb.block w.heap.size (by simp))
 clear hb hck1
 have hlv2 := hlv w2 HB2.out
 clear hlv
 go_wp2_with fail
 refine hlv2.mono ?_
 rintro e w3 ⟨rfl, hb⟩
 have HB3 : Hid (Below w.heap.size w w3) := HB2.out.trans (hb.mono HB2.out.size)
 have HC3 : Hid (IsCells w3 w.heap.size #[.int .i64 tk, .string nm, .slice aa al ac, .string tx, .slice ka kl kc]) := HC2.out.of_block (hb.block w.heap.size HC2.out.lt)
 clear hb hlv2
 have har3 := har w3 HB3.out
 clear har
 go_wp2_with fail
 refine har3.mono ?_
 rintro e w4 ⟨rfl, hb⟩
 have HB4 : Hid (Below w.heap.size w w4) := HB3.out.trans (hb.mono HB3.out.size)
 have HC4 : Hid (IsCells w4 w.heap.size #[.int .i64 tk, .string nm, .slice aa al ac, .string tx, .slice ka kl kc]) := HC3.out.of_block (hb.block w.heap.size HC3.out.lt)
 clear hb har3
 have hx0 := HC4.out.cell 0
 have hx1 := HC4.out.cell 1
 have hx2 := HC4.out.cell 2
 have hx3 := HC4.out.cell 3
 have hx4 := HC4.out.cell 4
 simp at hx0 hx1 hx2 hx3 hx4
 have hme4 := hme w4 HB4.out
 clear hme
 go_wp2_with fail
 refine hme4.mono ?_
 rintro e w5 ⟨rfl, hb⟩
 have HB5 : Hid (Below w.heap.size w w5) := HB4.out.trans (hb.mono HB4.out.size)
 have HC5 : Hid (IsCells w5 w.heap.size #[.int .i64 tk, .string nm, .slice aa al ac, .string tx, .slice ka kl kc]) := HC4.out.of_block (hb.block w.heap.size HC4.out.lt)
 clear hb hme4 hx0 hx1 hx2 hx3 hx4
 have hfi5 := hfi w5 HB5.out
 clear hfi
 go_wp2_with fail
 refine hfi5.mono ?_
 rintro e w6 ⟨rfl, hb⟩
 have HB6 : Hid (Below w.heap.size w w6) := HB5.out.trans (hb.mono HB5.out.size)
 have HC6 : Hid (IsCells w6 w.heap.size #[.int .i64 tk, .string nm, .slice aa al ac, .string tx, .slice ka kl kc]) := HC5.out.of_block (hb.block w.heap.size HC5.out.lt)
 clear hb hfi5
 have hfe6 := hfe w6 HB6.out
 clear hfe
 go_wp2_with fail
 refine hfe6.mono ?_
 rintro e w7 ⟨fa, fc, rfl, hown, hb⟩
 have HB7 : Hid (Below w.heap.size w w7) := HB6.out.trans (hb.mono HB6.out.size)
 have HC7 : Hid (IsCells w7 w.heap.size #[.int .i64 tk, .string nm, .slice aa al ac, .string tx, .slice ka kl kc]) := HC6.out.of_block (hb.block w.heap.size HC6.out.lt)
 obtain ⟨fg, hfa, hfg⟩ : ∃ fg, fa = some ⟨fg, 0, none⟩ /\ w6.heap.size <= fg /\ fg < w7.heap.size /\ nd <= fc /\ ∀ (j x : Nat), FL[j]? = some x -> w7.cell? ⟨fg, 0 + j, none⟩ = some (.int .i64 (x : Int)) := by
  obtain ⟨r1, r2, r3⟩ := row_cell hown
  obtain ⟨x0, hx0⟩ : ∃ x, FL[0]? = some x := ⟨_, List.getElem?_eq_getElem (by omega)⟩
  obtain ⟨g0, q1, q2, q3, q4⟩ := r3 0 (.int .i64 (x0 : Int)) (by simp [ivals, hx0])
  refine ⟨g0, q1, q2, q3, by omega, fun j x hx => ?_⟩
  obtain ⟨g1, q1', _, _, q4'⟩ := r3 j (.int .i64 (x : Int)) (by simp [ivals, hx])
  rw [q1] at q1'
  cases q1'
  rw [Nat.zero_add]
  exact q4'
 subst hfa
 rw [hfl]
 have hs67 := hb.size
 have hs6 := HB6.out.size
 have HFA : Hid (FrAt (w7.alloc (.cells #[.slice (some ⟨fg, 0, none⟩) nd fc] 39)) w7.heap.size fg FL) := by
  refine ⟨⟨0, fc, ?_, by rw [hfl]; exact hfg.2.2.1, fun j x hx => ?_⟩, by omega, by simp; omega⟩
  ·rw [hfl]
   exact isCells_new w7 _ 39
  ·exact (World.cell?_of_block (w := w7) (a := ⟨fg, 0 + j, none⟩) (Below.heap_alloc _ _ _ hfg.2.1)).trans (hfg.2.2.2 j x hx)
 have HB8 : Hid (Below w.heap.size w (w7.alloc (.cells #[.slice (some ⟨fg, 0, none⟩) nd fc] 39))) := HB7.out.alloc HB7.out.size _
 have HC8 : Hid (IsCells (w7.alloc (.cells #[.slice (some ⟨fg, 0, none⟩) nd fc] 39)) w.heap.size #[.int .i64 tk, .string nm, .slice aa al ac, .string tx, .slice ka kl kc]) := HC7.out.alloc _
 have hga := HGA.out _ _ _ HB8.out HFA.out (by omega) (by omega)
 have hx0 := HC7.out.cell 0
 have hx1 := HC7.out.cell 1
 have hx2 := HC7.out.cell 2
 have hx3 := HC7.out.cell 3
 have hx4 := HC7.out.cell 4
 simp at hx0 hx1 hx2 hx3 hx4
 have hwl7 : w.heap.size < w7.heap.size := HC7.out.lt
 have hnn : ¬ (nd : Int) < (nd : Int) := by omega
 clear hown hb hfe6 hfg HFA HGA
 go_wp2_with fail
 refine hga.mono ?_
 rintro e w9 ⟨rfl, ro9, hp9⟩
 have hlk := HLK.out w9 ro9 hp9.doc
 have HP9 : Hid (PG (w7.alloc (.cells #[.slice (some ⟨fg, 0, none⟩) nd fc] 39)) ro db w7.heap.size fg E _ w9 ro9) := hp9
 clear hga hp9 HLK hx0 hx1 hx2 hx3 hx4
 go_wp2_with fail
 refine hlk.mono ?_
 rintro e w10 ⟨rfl, ht, ro10, hd10, hf10⟩
 have HFIN : Hid (Turn (fun b => ro b ≠ 0) w w10 /\ ∃ ro', PDoc w10 ro' db (putD E H p wh a) /\ ∀ b, ro' b ≠ 0 -> ro b ≠ 0 \/ w.heap.size <= b) := by
  have h8 := HB8.out
  have h9 := HP9.out
  have hs8 := h8.size
  refine ⟨⟨ht.os.trans (h9.turn.os.trans h8.os), ht.tape.trans (h9.turn.tape.trans h8.tape), ht.output.trans (h9.turn.output.trans h8.output), Nat.le_trans hs8 (Nat.le_trans h9.turn.size ht.size), fun b hb hn => ?_⟩, ro10, hd10, fun b hb => ?_⟩
  ·rw [ht.block b (by have := h9.turn.size; omega) (fun e => ?_), h9.turn.block b (by omega) (fun e => ?_), h8.block b hb]
   ·rcases e with e | e
    ·exact hn e
    ·omega
   ·rcases h9.from' b e with h1 | h1
    ·exact hn h1
    ·omega
  ·rcases hf10 b hb with h1 | h1
   ·rcases h9.from' b h1 with h2 | h2
    ·exact .inl h2
    ·exact .inr (by omega)
   ·exact .inr (by have := h9.turn.size; omega)
 clear ht hd10 hf10 hlk
 go_wp2
 go_ret2
 exact ⟨rfl, HFIN.out⟩
theorem pins_any (n : Nat) (w : World) (v : Array Value) (t : T n) (lo hi : Nat) (ro : Nat -> Nat) (db a : Nat) (wh : Int) (D : Dc) (h : TreeAt w lo hi n v t) (hsz : hi <= w.heap.size) (hro : ∀ b, ro b ≠ 0 -> ¬ (lo <= b /\ b < hi)) (hd : PDoc w ro db D) (hw : WF D) (hal : a < 18446744073709551616) :
  Calls Try.prog 24 #[.pointer (some ⟨db, 0, none⟩), .int .i64 wh, .int .u64 (a : Int), .agg v] w (InsP w ro db (insD D wh a n t).1 (insD D wh a n t).2 (insE D wh a n t)) := by
 have hbad : insE D wh a n t ≠ 0 -> insD D wh a n t = (D, 0) := fun h => by unfold insD; rw [if_neg h]
 cases hpl : isPlaceB wh a with
 | false =>
  have e : insE D wh a n t = 1 := by unfold insE; rw [if_pos hpl]
  rw [hbad (by rw [e]; decide), e]
  exact ins_place n w v t lo hi ro db a wh D h hsz hro hd hw hal hpl
 | true =>
  by_cases hcz : (chk n t 1 0).2 = 0
  ·have e := insE_eq hw (a := a) (wh := wh) hpl hcz
   have o := chk_ok n t 1 0 (by omega) (by omega) (by omega) hcz
   have hN4 : ndT n t <= 4096 := by
    have := chk_le n t 1 0 (by omega)
    omega
   cases hla : liveB D a with
   | false =>
    rw [if_pos hla] at e
    rw [hbad (by rw [e]; decide), e]
    exact ins_live n w v t lo hi ro db a wh D h hsz hro hd hw hal hpl hcz hla
   | true =>
    rw [if_neg (by simp [hla])] at e
    by_cases hfz : fitsE D (arD D wh a) (htT n t) = 0
    ·rw [if_neg (by simp [hfz])] at e
     by_cases hmn : 4096 < cnt takenB D.S + ndT n t
     ·rw [if_pos hmn] at e
      rw [hbad (by rw [e]; decide), e]
      exact ins_many n w v t lo hi ro db a wh D h hsz hro hd hw hal hpl hcz hla hN4 hfz hmn
     ·rw [if_neg hmn] at e
      have hz := e
      have f3 := (place_facts hw (insE_ok e).2.2.1 hpl).2.2.1
      have ei : insD D wh a n t = (putD (growD n t (arD D wh a) D).1 (growD n t (arD D wh a) D).2 (arD D wh a) wh a, (growD n t (arD D wh a) D).2) := by
       unfold insD
       rw [if_pos e, f3]
      rw [ei, e]
      exact ins_ok n w v t lo hi ro db a wh D h hsz hro hd hw hal hz hpl hcz hla hN4 hfz
    ·rw [if_pos (by simpa using hfz)] at e
     rw [hbad (by rw [e]; exact hfz), e]
     exact ins_fits n w v t lo hi ro db a wh D h hsz hro hd hw hal hpl hcz hla hN4 hfz
  ·have e : insE D wh a n t = (chk n t 1 0).2 := by unfold insE; rw [if_neg (by simp [hpl]), if_pos hcz]
   rw [hbad (by rw [e]; exact hcz), e]
   exact ins_check n w v t lo hi ro db a wh D h hsz hro hd hw hal hpl hcz
end Go.Proofs.Ytmapmkogjhinmaa
