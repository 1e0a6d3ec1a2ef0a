/- linked: the links that are nil, and Most. -/
import Derived.Test.YtjkgjckkglfokaaLk0
import Derived.Test.YtjkgjckkglfokaaMost
namespace Go.Proofs.Ytjkgjckkglfokaa
open Go.RowKit Go.Shelf
set_option linter.unusedVariables false

set_option maxRecDepth 100000 in
set_option maxHeartbeats 4000000 in
theorem linked_only_nil {gf : Nat} {lb : Array Value} {xs : List Int} {R T : Nat → Prop} {Sq : World → Prop} (hs : IsSeq Try.prog gf lb encI xs R T Sq) (eg : ∀ args w, (callFunc gf args).run Try.prog w = .ok (.enter gf args) w)
    (N : Nat) (K0 : Nat → Prop) (W : World) (hq : Sq W) (la : Option Addr) (lc : Nat) (hL : NumsB W la xs) (hl : xs.length ≤ 1048576) (ag : Int) (ma : Option Addr) (mn mc : Nat) :
    Calls Try.prog 14 #[.func (.func gf) #[] lb, .slice la xs.length lc, .agg (LinkC 0 ag ma mn mc true)] W (LinkP N W R T K0 ([])) := by
  obtain ⟨W1, hW1⟩ : ∃ W1, W.alloc (.cells (LinkC 0 ag ma mn mc true) 56) = W1 := ⟨_, rfl⟩
  have HW1 : Hid (W.alloc (.cells (LinkC 0 ag ma mn mc true) 56) = W1) := hW1
  have hk : IsC W1 W.heap.size (LinkC 0 ag ma mn mc true) := by rw [← hW1]; exact isC_new _ _ _
  have t1 : Tn (fun _ => False) W W1 := by rw [← hW1]; exact (Tn.refl _ _).alloc _
  have HKb : Hid (IsC W1 W.heap.size (LinkC 0 ag ma mn mc true) ∧ Tn (fun _ => False) W W1) := ⟨hk, t1⟩
  have k0 : W1.cell? ⟨W.heap.size, 0, none⟩ = some (.int .i64 0) := hk.cell 0
  have k1 : W1.cell? ⟨W.heap.size, 1, none⟩ = some (.int .i64 ag) := hk.cell 1
  have k2 : W1.cell? ⟨W.heap.size, 2, none⟩ = some (.slice ma mn mc) := hk.cell 2
  have k3 : W1.cell? ⟨W.heap.size, 3, none⟩ = some (.bool true) := hk.cell 3
  have hkl := hk.lt
  have HL : Hid (NumsB W la xs) := hL
  have HS : Hid (IsSeq Try.prog gf lb encI xs R T Sq ∧ Sq W) := ⟨hs, hq⟩
  have HBW : Hid (W1.heap.size = W.heap.size + 1) := by show _ = _; rw [← hW1]; simp
  clear hW1 hk t1 hL hs hq
  unfold LinkC at HW1
  unfold LinkC
  go_enter Try.func14, Try.ntmps14
  have hmk := mk_only_nil W1 gf lb
  go_wp2_with fail
  rw [HW1.out]
  with_reducible refine hmk.mono ?_
  rintro e w' ⟨rfl, rfl⟩
  go_wp2
  go_ret2
  obtain ⟨Y, hY⟩ : ∃ Y, (W1.alloc (.cells #[.func (.func gf) #[] lb] 50)).alloc (.cells #[.nilFunc] 63) = Y := ⟨_, rfl⟩
  have tA : Tn (fun _ => False) W1 Y := by rw [← hY]; exact ((Tn.refl _ _).alloc _).alloc _
  have y1 : IsC Y W1.heap.size #[.func (.func gf) #[] lb] := by rw [← hY]; exact (isC_new W1 _ _).tn ((Tn.refl (fun _ => False) _).alloc _) id
  have y2 : IsC Y (W1.heap.size + 1) #[.nilFunc] := by
    rw [← hY]
    have h := isC_new (W1.alloc (.cells #[.func (.func gf) #[] lb] 50)) #[.nilFunc] 63
    simpa using h
  have ef : ∀ args w, (callFunc 91 args).run Try.prog w = .ok (.enter 91 args) w := fun _ _ => by kernel_rfl
  rw [hY]
  exact link_end HKb.out.2 (LkS.nil W1) tA ef (only_nil (gf := gf) (lb := lb)) ⟨y1, y2⟩ (fun b hb => hb.elim) (fun b hb => by have := HKb.out.2.size; rcases hb with hb | hb <;> exact .inr (.inl (by omega)))

set_option maxRecDepth 100000 in
set_option maxHeartbeats 4000000 in
theorem linked_map_nil {gf : Nat} {lb : Array Value} {xs : List Int} {R T : Nat → Prop} {Sq : World → Prop} (hs : IsSeq Try.prog gf lb encI xs R T Sq) (eg : ∀ args w, (callFunc gf args).run Try.prog w = .ok (.enter gf args) w)
    (N : Nat) (K0 : Nat → Prop) (W : World) (hq : Sq W) (la : Option Addr) (lc : Nat) (hL : NumsB W la xs) (hl : xs.length ≤ 1048576) (ag : Int) (ma : Option Addr) (mn mc : Nat) :
    Calls Try.prog 14 #[.func (.func gf) #[] lb, .slice la xs.length lc, .agg (LinkC 2 ag ma mn mc true)] W (LinkP N W R T K0 ([])) := by
  obtain ⟨W1, hW1⟩ : ∃ W1, W.alloc (.cells (LinkC 2 ag ma mn mc true) 56) = W1 := ⟨_, rfl⟩
  have HW1 : Hid (W.alloc (.cells (LinkC 2 ag ma mn mc true) 56) = W1) := hW1
  have hk : IsC W1 W.heap.size (LinkC 2 ag ma mn mc true) := by rw [← hW1]; exact isC_new _ _ _
  have t1 : Tn (fun _ => False) W W1 := by rw [← hW1]; exact (Tn.refl _ _).alloc _
  have HKb : Hid (IsC W1 W.heap.size (LinkC 2 ag ma mn mc true) ∧ Tn (fun _ => False) W W1) := ⟨hk, t1⟩
  have k0 : W1.cell? ⟨W.heap.size, 0, none⟩ = some (.int .i64 2) := hk.cell 0
  have k1 : W1.cell? ⟨W.heap.size, 1, none⟩ = some (.int .i64 ag) := hk.cell 1
  have k2 : W1.cell? ⟨W.heap.size, 2, none⟩ = some (.slice ma mn mc) := hk.cell 2
  have k3 : W1.cell? ⟨W.heap.size, 3, none⟩ = some (.bool true) := hk.cell 3
  have hkl := hk.lt
  have HL : Hid (NumsB W la xs) := hL
  have HS : Hid (IsSeq Try.prog gf lb encI xs R T Sq ∧ Sq W) := ⟨hs, hq⟩
  have HBW : Hid (W1.heap.size = W.heap.size + 1) := by show _ = _; rw [← hW1]; simp
  clear hW1 hk t1 hL hs hq
  unfold LinkC at HW1
  unfold LinkC
  go_enter Try.func14, Try.ntmps14
  have hmk := mk_map_nil W1 gf lb
  go_wp2_with fail
  rw [HW1.out]
  with_reducible refine hmk.mono ?_
  rintro e w' ⟨rfl, rfl⟩
  go_wp2
  go_ret2
  obtain ⟨Y, hY⟩ : ∃ Y, (W1.alloc (.cells #[.func (.func gf) #[] lb] 50)).alloc (.cells #[.nilFunc] 68) = Y := ⟨_, rfl⟩
  have tA : Tn (fun _ => False) W1 Y := by rw [← hY]; exact ((Tn.refl _ _).alloc _).alloc _
  have y1 : IsC Y W1.heap.size #[.func (.func gf) #[] lb] := by rw [← hY]; exact (isC_new W1 _ _).tn ((Tn.refl (fun _ => False) _).alloc _) id
  have y2 : IsC Y (W1.heap.size + 1) #[.nilFunc] := by
    rw [← hY]
    have h := isC_new (W1.alloc (.cells #[.func (.func gf) #[] lb] 50)) #[.nilFunc] 68
    simpa using h
  have ef : ∀ args w, (callFunc 65 args).run Try.prog w = .ok (.enter 65 args) w := fun _ _ => by kernel_rfl
  rw [hY]
  exact link_end HKb.out.2 (LkS.nil W1) tA ef (map_nil (gf := gf) (lb := lb)) ⟨y1, y2⟩ (fun b hb => hb.elim) (fun b hb => by have := HKb.out.2.size; rcases hb with hb | hb <;> exact .inr (.inl (by omega)))

set_option maxRecDepth 100000 in
set_option maxHeartbeats 4000000 in
theorem linked_flat_nil {gf : Nat} {lb : Array Value} {xs : List Int} {R T : Nat → Prop} {Sq : World → Prop} (hs : IsSeq Try.prog gf lb encI xs R T Sq) (eg : ∀ args w, (callFunc gf args).run Try.prog w = .ok (.enter gf args) w)
    (N : Nat) (K0 : Nat → Prop) (W : World) (hq : Sq W) (la : Option Addr) (lc : Nat) (hL : NumsB W la xs) (hl : xs.length ≤ 1048576) (ag : Int) (ma : Option Addr) (mn mc : Nat) :
    Calls Try.prog 14 #[.func (.func gf) #[] lb, .slice la xs.length lc, .agg (LinkC 3 ag ma mn mc true)] W (LinkP N W R T K0 ([])) := by
  obtain ⟨W1, hW1⟩ : ∃ W1, W.alloc (.cells (LinkC 3 ag ma mn mc true) 56) = W1 := ⟨_, rfl⟩
  have HW1 : Hid (W.alloc (.cells (LinkC 3 ag ma mn mc true) 56) = W1) := hW1
  have hk : IsC W1 W.heap.size (LinkC 3 ag ma mn mc true) := by rw [← hW1]; exact isC_new _ _ _
  have t1 : Tn (fun _ => False) W W1 := by rw [← hW1]; exact (Tn.refl _ _).alloc _
  have HKb : Hid (IsC W1 W.heap.size (LinkC 3 ag ma mn mc true) ∧ Tn (fun _ => False) W W1) := ⟨hk, t1⟩
  have k0 : W1.cell? ⟨W.heap.size, 0, none⟩ = some (.int .i64 3) := hk.cell 0
  have k1 : W1.cell? ⟨W.heap.size, 1, none⟩ = some (.int .i64 ag) := hk.cell 1
  have k2 : W1.cell? ⟨W.heap.size, 2, none⟩ = some (.slice ma mn mc) := hk.cell 2
  have k3 : W1.cell? ⟨W.heap.size, 3, none⟩ = some (.bool true) := hk.cell 3
  have hkl := hk.lt
  have HL : Hid (NumsB W la xs) := hL
  have HS : Hid (IsSeq Try.prog gf lb encI xs R T Sq ∧ Sq W) := ⟨hs, hq⟩
  have HBW : Hid (W1.heap.size = W.heap.size + 1) := by show _ = _; rw [← hW1]; simp
  clear hW1 hk t1 hL hs hq
  unfold LinkC at HW1
  unfold LinkC
  go_enter Try.func14, Try.ntmps14
  have hmk := mk_flat_nil W1 gf lb
  go_wp2_with fail
  rw [HW1.out]
  with_reducible refine hmk.mono ?_
  rintro e w' ⟨rfl, rfl⟩
  go_wp2
  go_ret2
  obtain ⟨Y, hY⟩ : ∃ Y, (W1.alloc (.cells #[.func (.func gf) #[] lb] 50)).alloc (.cells #[.nilFunc] 92) = Y := ⟨_, rfl⟩
  have tA : Tn (fun _ => False) W1 Y := by rw [← hY]; exact ((Tn.refl _ _).alloc _).alloc _
  have y1 : IsC Y W1.heap.size #[.func (.func gf) #[] lb] := by rw [← hY]; exact (isC_new W1 _ _).tn ((Tn.refl (fun _ => False) _).alloc _) id
  have y2 : IsC Y (W1.heap.size + 1) #[.nilFunc] := by
    rw [← hY]
    have h := isC_new (W1.alloc (.cells #[.func (.func gf) #[] lb] 50)) #[.nilFunc] 92
    simpa using h
  have ef : ∀ args w, (callFunc 92 args).run Try.prog w = .ok (.enter 92 args) w := fun _ _ => by kernel_rfl
  rw [hY]
  exact link_end HKb.out.2 (LkS.nil W1) tA ef (flat_nil (gf := gf) (lb := lb)) ⟨y1, y2⟩ (fun b hb => hb.elim) (fun b hb => by have := HKb.out.2.size; rcases hb with hb | hb <;> exact .inr (.inl (by omega)))

theorem most_end {K0 : Nat → Prop} {gf N : Nat} {lb : Array Value} {xs : List Int} {R T : Nat → Prop} {Sq : World → Prop} {W W1 wr : World} {L : List Int} {oa : Option Addr} {oc : Nat} {ag : Int} (h1 : IsSeq Try.prog gf lb encI xs R T Sq ∧ Sq W) (eg : ∀ args w, (callFunc gf args).run Try.prog w = .ok (.enter gf args) w) (t1 : Tn (fun _ => False) W W1) (hO : LkS W1 L oa oc wr) (hag : ag < 9223372036854775808) (hL : L = xs.take ag.toNat) :
    LinkP N W R T K0 (xs.take ag.toNat) (.returned (.tuple #[.func (.func 64) #[] #[.pointer (some ⟨wr.heap.size, 0, none⟩), .pointer (some ⟨wr.heap.size + 1, 0, none⟩)], .slice oa L.length oc])) ((wr.alloc (.cells #[.func (.func gf) #[] lb] 50)).alloc (.cells #[.int .i64 ag] 3)) := by
  have hRl : ∀ b, R b → b < W.heap.size := h1.1.lt W h1.2
  have hW1 := t1.size
  have hwr := hO.2.size
  obtain ⟨Y, hY⟩ : ∃ Y, (wr.alloc (.cells #[.func (.func gf) #[] lb] 50)).alloc (.cells #[.int .i64 ag] 3) = Y := ⟨_, rfl⟩
  have tA : Tn (fun _ => False) wr Y := by rw [← hY]; exact ((Tn.refl _ _).alloc _).alloc _
  have y1 : IsC Y wr.heap.size #[.func (.func gf) #[] lb] := by rw [← hY]; exact (isC_new wr _ _).tn ((Tn.refl (fun _ => False) _).alloc _) id
  have y2 : IsC Y (wr.heap.size + 1) #[.int .i64 ag] := by
    rw [← hY]
    have h := isC_new (wr.alloc (.cells #[.func (.func gf) #[] lb] 50)) #[.int .i64 ag] 3
    simpa using h
  have tW : Tn (fun _ => False) W Y := (t1.trans (Tn.of_below hO.2 (Nat.le_refl _)) (fun _ _ h => h)).trans tA (fun _ _ h => h)
  have hqY : Sq Y := h1.1.stab _ _ _ h1.2 tW (fun _ _ h => h)
  have ef : ∀ args w, (callFunc 64 args).run Try.prog w = .ok (.enter 64 args) w := fun _ _ => by kernel_rfl
  rw [hY, ← hL]
  by_cases ha : 1 ≤ ag
  · have e : ((ag.toNat : Nat) : Int) = ag := Int.toNat_of_nonneg (by omega)
    have hse := most_seq h1.1 eg (sb := wr.heap.size) (mb := wr.heap.size + 1) (n := ag.toNat) (by omega) (by omega) (fun h => by have := hRl _ h; omega) (fun h => by have := hRl _ h; omega)
    rw [e, ← hL] at hse
    exact link_end t1 hO tA ef hse ⟨hqY, y1, y2⟩ (fun b hb => ⟨.inl hb, .inl (Nat.lt_of_lt_of_le (hRl b (h1.1.sub b hb)) t1.size)⟩) (fun b hb => by rcases hb with hb | hb | hb; exact .inl hb; exact .inr (.inl (by omega)); exact .inr (.inl (by omega)))
  · have hz : L = [] := by rw [hL, show ag.toNat = 0 by omega]; rfl
    subst hz
    exact link_end t1 hO tA ef (most_zero (gf := gf) (lb := lb) (n := ag) (by omega)) ⟨y1, y2⟩ (fun b hb => hb.elim) (fun b hb => by rcases hb with hb | hb <;> exact .inr (.inl (by omega)))

set_option maxRecDepth 100000 in
set_option maxHeartbeats 4000000 in
theorem linked_most {gf : Nat} {lb : Array Value} {xs : List Int} {R T : Nat → Prop} {Sq : World → Prop} (hs : IsSeq Try.prog gf lb encI xs R T Sq) (eg : ∀ args w, (callFunc gf args).run Try.prog w = .ok (.enter gf args) w)
    (N : Nat) (K0 : Nat → Prop) (W : World) (hq : Sq W) (la : Option Addr) (lc : Nat) (hL : NumsB W la xs) (hl : xs.length ≤ 1048576) (ag : Int) (ma : Option Addr) (mn mc : Nat) (nl : Bool) (hag : ag < 9223372036854775808) :
    Calls Try.prog 14 #[.func (.func gf) #[] lb, .slice la xs.length lc, .agg (LinkC 1 ag ma mn mc nl)] W (LinkP N W R T K0 (xs.take ag.toNat)) := by
  obtain ⟨W1, hW1⟩ : ∃ W1, W.alloc (.cells (LinkC 1 ag ma mn mc nl) 56) = W1 := ⟨_, rfl⟩
  have HW1 : Hid (W.alloc (.cells (LinkC 1 ag ma mn mc nl) 56) = W1) := hW1
  have hk : IsC W1 W.heap.size (LinkC 1 ag ma mn mc nl) := by rw [← hW1]; exact isC_new _ _ _
  have t1 : Tn (fun _ => False) W W1 := by rw [← hW1]; exact (Tn.refl _ _).alloc _
  have HKb : Hid (IsC W1 W.heap.size (LinkC 1 ag ma mn mc nl) ∧ Tn (fun _ => False) W W1) := ⟨hk, t1⟩
  have k0 : W1.cell? ⟨W.heap.size, 0, none⟩ = some (.int .i64 1) := hk.cell 0
  have k1 : W1.cell? ⟨W.heap.size, 1, none⟩ = some (.int .i64 ag) := hk.cell 1
  have k2 : W1.cell? ⟨W.heap.size, 2, none⟩ = some (.slice ma mn mc) := hk.cell 2
  have k3 : W1.cell? ⟨W.heap.size, 3, none⟩ = some (.bool nl) := hk.cell 3
  have hkl := hk.lt
  have HL : Hid (NumsB W la xs) := hL
  have HS : Hid (IsSeq Try.prog gf lb encI xs R T Sq ∧ Sq W) := ⟨hs, hq⟩
  have HBW : Hid (W1.heap.size = W.heap.size + 1) := by show _ = _; rw [← hW1]; simp
  clear hW1 hk t1 hL hs hq
  unfold LinkC at HW1
  unfold LinkC
  go_enter Try.func14, Try.ntmps14
  go_wp2
  rw [HW1.out]
  go_loopw [8, 10] (fun o v wr => ∃ (i : Nat) (L : List Int) (oa : Option Addr) (oc : Nat), i ≤ xs.length ∧ v = .int .i64 (i : Int) ∧ o = .slice oa L.length oc ∧ L.length ≤ i ∧ Hid (L = xs.take i ∧ ((i : Int) ≤ ag ∨ i = 0)) ∧ Hid (LkS W1 L oa oc wr)) (fun _ v _ => xs.length - (intOf v).toNat)
  case atStart => exact ⟨0, [], none, 0, by omega, rfl, rfl, Nat.le_refl _, ⟨rfl, .inr rfl⟩, LkS.nil W1⟩
  case round =>
    obtain ⟨i, L, oa, oc, hi, rfl, rfl, hLi, HE, HO⟩ := hrel
    have hws := HO.out.2.size
    have hkw : W.heap.size < wr.heap.size := by omega
    have c1 : wr.cell? ⟨W.heap.size, 1, none⟩ = some (.int .i64 ag) := (HO.out.2.cell (p := ⟨W.heap.size, 1, none⟩) hkl).trans k1
    by_cases hlt : i < xs.length ∧ (i : Int) < ag
    · obtain ⟨hlt, hla⟩ := hlt
      obtain ⟨x, hx⟩ : ∃ x, xs[i]? = some x := ⟨_, List.getElem?_eq_getElem hlt⟩
      obtain ⟨g, o, rfl, hg, hc⟩ := HL.out.at HKb.out.2 HO.out.2 hx
      have HE2 : Hid (L ++ [x] = xs.take (i + 1) ∧ (((i + 1 : Nat) : Int) ≤ ag ∨ i + 1 = 0)) := ⟨by rw [take_one hx, HE.out.1], .inl (by omega)⟩
      clear hx
      have HO2 : Hid (LkS W1 L oa oc (wr.alloc (.cells #[.int .i64 x] 3))) := HO.out.alloc _
      have tok : True := trivial
      go_wp2_with (at_builtin; have _t := tok; refine Bs.wpList_app rfl _ _ rfl Try.underlying47 infoB rfl (by decide) W1.heap.size (.slice oa L.length oc) L.length (ivs L) rfl HO2.out.1 (some ⟨wr.heap.size, 0, none⟩) 1 1 [.int .i64 x] rfl rfl (news1 wr _ _) (by intro u hu; simp at hu; subst hu; rfl) (by unfold maxLen; omega) (by omega) (by simp; omega) ?_; intro v1 w1 hown1 hg1 _ hat1; obtain ⟨va, vc, hvv⟩ := own_slice hown1; subst hvv; clear tok _t)
      go_roundw
      case rel => exact ⟨i + 1, L ++ [x], va, vc, by omega, by go_num, by simp, by simp; omega, HE2, HO2.out.app hown1 hg1⟩
      case measure => simp [intOf]; omega
    · have HE2 : Hid (L = xs.take ag.toNat) := by
        show _ = _
        have h2 := HE.out.2
        rw [HE.out.1]
        by_cases h : i < xs.length
        · rw [show i = ag.toNat by omega]
        · rw [List.take_of_length_le (by omega), List.take_of_length_le (by omega)]
      have hd1 : decide ((i : Int) < (xs.length : Int)) = decide (i < xs.length) := by simp
      have hmk := mk_most wr gf lb ag
      by_cases hl1 : i < xs.length
      · have hl2 : ¬ (i : Int) < ag := fun h => hlt ⟨hl1, h⟩
        clear hlt
        go_wp2_with fail
        with_reducible refine hmk.mono ?_
        rintro e w' ⟨rfl, rfl⟩
        go_wp2
        go_ret2
        exact most_end HS.out eg HKb.out.2 HO.out hag HE2.out
      · clear hlt
        go_wp2_with fail
        with_reducible refine hmk.mono ?_
        rintro e w' ⟨rfl, rfl⟩
        go_wp2
        go_ret2
        exact most_end HS.out eg HKb.out.2 HO.out hag HE2.out

end Go.Proofs.Ytjkgjckkglfokaa
