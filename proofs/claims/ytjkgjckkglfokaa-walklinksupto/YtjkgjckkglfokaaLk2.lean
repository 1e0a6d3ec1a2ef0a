/- linked: Map and Flat. -/
import Derived.Test.YtjkgjckkglfokaaLk0
import Derived.Test.YtjkgjckkglfokaaMap
import Derived.Test.YtjkgjckkglfokaaRep
namespace Go.Proofs.Ytjkgjckkglfokaa
open Go.RowKit Go.Shelf
set_option linter.unusedVariables false
attribute [local go_sem] Bs.Bel.cell Bs.Bel.fz

set_option maxRecDepth 100000 in
set_option maxHeartbeats 4000000 in
theorem linked_map {gf : Nat} {lb : Array Value} {xs : List Int} {R T : Nat → Prop} {Sq : World → Prop} (hs : IsSeq Try.prog gf lb encI xs R T Sq) (eg : ∀ args w, (callFunc gf args).run Try.prog w = .ok (.enter gf args) w)
    (N : Nat) (K0 : Nat → Prop) (W : World) (hq : Sq W) (la : Option Addr) (lc : Nat) (hL : NumsB W la xs) (hl : xs.length ≤ 1048576) (ag : Int) (ma : Option Addr) (mn mc : Nat) :
    Calls Try.prog 14 #[.func (.func gf) #[] lb, .slice la xs.length lc, .agg (LinkC 2 ag ma mn mc false)] W (LinkP N W R T K0 (xs.map (fun x => wrap64 (x + ag)))) := by
  obtain ⟨W1, hW1⟩ : ∃ W1, W.alloc (.cells (LinkC 2 ag ma mn mc false) 56) = W1 := ⟨_, rfl⟩
  have HW1 : Hid (W.alloc (.cells (LinkC 2 ag ma mn mc false) 56) = W1) := hW1
  have hk : IsC W1 W.heap.size (LinkC 2 ag ma mn mc false) := by rw [← hW1]; exact isC_new _ _ _
  have t1 : Tn (fun _ => False) W W1 := by rw [← hW1]; exact (Tn.refl _ _).alloc _
  have HKb : Hid (IsC W1 W.heap.size (LinkC 2 ag ma mn mc false) ∧ Tn (fun _ => False) W W1) := ⟨hk, t1⟩
  have k0 : W1.cell? ⟨W.heap.size, 0, none⟩ = some (.int .i64 2) := hk.cell 0
  have k1 : W1.cell? ⟨W.heap.size, 1, none⟩ = some (.int .i64 ag) := hk.cell 1
  have k2 : W1.cell? ⟨W.heap.size, 2, none⟩ = some (.slice ma mn mc) := hk.cell 2
  have k3 : W1.cell? ⟨W.heap.size, 3, none⟩ = some (.bool false) := hk.cell 3
  have hkl := hk.lt
  have HL : Hid (NumsB W la xs) := hL
  have HS : Hid (IsSeq Try.prog gf lb encI xs R T Sq ∧ Sq W) := ⟨hs, hq⟩
  have HBW : Hid (W1.heap.size = W.heap.size + 1) := by show _ = _; rw [← hW1]; simp
  clear hW1 hk t1 hL hs hq
  unfold LinkC at HW1
  unfold LinkC
  go_enter Try.func14, Try.ntmps14
  go_wp2
  rw [HW1.out]
  go_loopw [8, 11] (fun o v wr => ∃ (i : Nat) (L : List Int) (oa : Option Addr) (oc : Nat), i ≤ xs.length ∧ v = .int .i64 (i : Int) ∧ o = .slice oa L.length oc ∧ L.length ≤ i ∧ Hid (L = (xs.take i).map (fun x => wrap64 (x + ag))) ∧ Hid (LkS W1 L oa oc wr)) (fun _ v _ => xs.length - (intOf v).toNat)
  case atStart => exact ⟨0, [], none, 0, by omega, rfl, rfl, Nat.le_refl _, rfl, LkS.nil W1⟩
  case round =>
    obtain ⟨i, L, oa, oc, hi, rfl, rfl, hLi, HE, HO⟩ := hrel
    have hws := HO.out.2.size
    have hkw : W.heap.size < wr.heap.size := by omega
    by_cases hlt : i < xs.length
    · obtain ⟨x, hx⟩ : ∃ x, xs[i]? = some x := ⟨_, List.getElem?_eq_getElem hlt⟩
      obtain ⟨g, o, rfl, hg, hc⟩ := HL.out.at HKb.out.2 HO.out.2 hx
      obtain ⟨y, hy⟩ : ∃ y, IntKind.i64.wrap (x + ag) = y := ⟨_, rfl⟩
      have hy64 : wrap64 (x + ag) = y := by rw [← hy, IntKind.wrap_i64]; simp only [wrap64]
      have c1 : wr.drew.cell? ⟨W.heap.size, 1, none⟩ = some (.int .i64 ag) := (HO.out.2.cell (p := ⟨W.heap.size, 1, none⟩) hkl).trans k1
      have c2 : wr.drew.cell? ⟨g, o + i, none⟩ = some (.int .i64 x) := hc
      have HE2 : Hid (L ++ [y] = (xs.take (i + 1)).map (fun x => wrap64 (x + ag))) := by show _ = _; rw [take_one hx, List.map_append, ← HE.out]; simp [hy64]
      clear hx hc hy64
      have HO2 : Hid (LkS W1 L oa oc ((wr.alloc (.cells #[.int .i64 y] 3)).drew)) := (HO.out.alloc (.cells #[.int .i64 y] 3)).bel ⟨_, (Below.refl _ _).drew⟩
      have tok : True := trivial
      go_wp2_with fail
      go_region_law (first
        | (have _t := tok; refine Bs.step_app (by rfl) _ _ (by rfl) Try.underlying47 infoB rfl (by decide) W1.heap.size (.slice oa L.length oc) L.length (ivs L) (by rfl) HO2.out.1 (some ⟨wr.heap.size, 0, none⟩) 1 1 [.int .i64 y] (by rfl) (by rfl) (news1 wr _ _) (by intro u hu; simp at hu; subst hu; rfl) (by unfold maxLen; omega) (by omega) (by simp; omega) ?_; intro v1 w1 hown1 hg1 _ hat1; obtain ⟨va, vc, hvv⟩ := own_slice hown1; subst hvv; have HO3 : Hid (LkS W1 (L ++ [y]) va vc w1) := HO2.out.app hown1 hg1; clear tok _t hown1 hg1 hat1))
      all_goals (
        clear hy
        go_wp2
        go_roundw
        case rel => exact ⟨i + 1, L ++ [y], va, vc, by omega, by go_num, by simp, by simp; omega, HE2, HO3⟩
        case measure => simp [intOf]; omega)
    · have HE2 : Hid (L = xs.map (fun x => wrap64 (x + ag))) := by show _ = _; rw [HE.out, List.take_of_length_le (by omega)]
      have hmk := mk_map wr gf lb 45 #[.pointer (some ⟨W.heap.size, 0, none⟩)]
      go_wp2_with fail
      with_reducible refine hmk.mono ?_
      rintro e w' ⟨rfl, rfl⟩
      go_wp2
      go_ret2
      rw [← HE2.out]
      have hRl : ∀ b, R b → b < W.heap.size := HS.out.1.lt W HS.out.2
      obtain ⟨Y, hY⟩ : ∃ Y, (wr.alloc (.cells #[.func (.func gf) #[] lb] 50)).alloc (.cells #[.func (.func 45) #[] #[.pointer (some ⟨W.heap.size, 0, none⟩)]] 68) = Y := ⟨_, rfl⟩
      have tA : Tn (fun _ => False) wr Y := by rw [← hY]; exact ((Tn.refl _ _).alloc _).alloc _
      have y1 : IsC Y wr.heap.size #[.func (.func gf) #[] lb] := by rw [← hY]; exact (isC_new wr _ _).tn ((Tn.refl (fun _ => False) _).alloc _) id
      have y2 : IsC Y (wr.heap.size + 1) #[.func (.func 45) #[] #[.pointer (some ⟨W.heap.size, 0, none⟩)]] := by
        rw [← hY]
        have h := isC_new (wr.alloc (.cells #[.func (.func gf) #[] lb] 50)) #[.func (.func 45) #[] #[.pointer (some ⟨W.heap.size, 0, none⟩)]] 68
        simpa using h
      have tW : Tn (fun _ => False) W Y := (HKb.out.2.trans (Tn.of_below HO.out.2 (Nat.le_refl _)) (fun _ _ h => h)).trans tA (fun _ _ h => h)
      have hqY : Sq Y := HS.out.1.stab _ _ _ HS.out.2 tW (fun _ _ h => h)
      have kY : IsC Y W.heap.size (LinkC 2 ag ma mn mc false) := (HKb.out.1.tn (Tn.of_below (A := fun _ => False) HO.out.2 (Nat.le_refl _)) id).tn tA id
      have ef : ∀ args w, (callFunc 65 args).run Try.prog w = .ok (.enter 65 args) w := fun _ _ => by kernel_rfl
      rw [hY]
      have hse := map_seq HS.out.1 eg (sb := wr.heap.size) (mb := wr.heap.size + 1) (add_fn (kb := W.heap.size) (kd := 2) (ag := ag) (ma := ma) (mn := mn) (mc := mc) (nl := false)) (fun h => by have := hRl _ h; omega) (fun h => by have := hRl _ h; omega) (fun b hb h => by have := hRl _ h; omega)
      rw [← HE2.out] at hse
      have hz1 := HKb.out.2.size
      have hz2 := HO.out.2.size
      exact link_end HKb.out.2 HO.out tA ef hse ⟨hqY, y1, y2, kY⟩ (fun b hb => ⟨.inl hb, .inl (Nat.lt_of_lt_of_le (hRl b (HS.out.1.sub b hb)) HKb.out.2.size)⟩) (fun b hb => by rcases hb with hb | hb | hb | hb; exact .inl hb; exact .inr (.inl (by omega)); exact .inr (.inl (by omega)); exact .inr (.inl (by omega)))

set_option maxRecDepth 100000 in
set_option maxHeartbeats 4000000 in
theorem linked_flat {gf : Nat} {lb : Array Value} {xs : List Int} {R T : Nat → Prop} {Sq : World → Prop} (hs : IsSeq Try.prog gf lb encI xs R T Sq) (eg : ∀ args w, (callFunc gf args).run Try.prog w = .ok (.enter gf args) w)
    (N : Nat) (K0 : Nat → Prop) (W : World) (hq : Sq W) (la : Option Addr) (lc : Nat) (hL : NumsB W la xs) (hl : xs.length ≤ 1048576) (ag : Int) (ma : Option Addr) (mn mc : Nat) :
    Calls Try.prog 14 #[.func (.func gf) #[] lb, .slice la xs.length lc, .agg (LinkC 3 ag ma mn mc false)] W (LinkP N W R T K0 (xs.flatMap (fun x => List.replicate (oft x) x))) := by
  obtain ⟨W1, hW1⟩ : ∃ W1, W.alloc (.cells (LinkC 3 ag ma mn mc false) 56) = W1 := ⟨_, rfl⟩
  have HW1 : Hid (W.alloc (.cells (LinkC 3 ag ma mn mc false) 56) = W1) := hW1
  have hk : IsC W1 W.heap.size (LinkC 3 ag ma mn mc false) := by rw [← hW1]; exact isC_new _ _ _
  have t1 : Tn (fun _ => False) W W1 := by rw [← hW1]; exact (Tn.refl _ _).alloc _
  have HKb : Hid (IsC W1 W.heap.size (LinkC 3 ag ma mn mc false) ∧ Tn (fun _ => False) W W1) := ⟨hk, t1⟩
  have k0 : W1.cell? ⟨W.heap.size, 0, none⟩ = some (.int .i64 3) := hk.cell 0
  have k1 : W1.cell? ⟨W.heap.size, 1, none⟩ = some (.int .i64 ag) := hk.cell 1
  have k2 : W1.cell? ⟨W.heap.size, 2, none⟩ = some (.slice ma mn mc) := hk.cell 2
  have k3 : W1.cell? ⟨W.heap.size, 3, none⟩ = some (.bool false) := hk.cell 3
  have hkl := hk.lt
  have HL : Hid (NumsB W la xs) := hL
  have HS : Hid (IsSeq Try.prog gf lb encI xs R T Sq ∧ Sq W) := ⟨hs, hq⟩
  have HBW : Hid (W1.heap.size = W.heap.size + 1) := by show _ = _; rw [← hW1]; simp
  clear hW1 hk t1 hL hs hq
  unfold LinkC at HW1
  unfold LinkC
  go_enter Try.func14, Try.ntmps14
  go_wp2
  rw [HW1.out]
  go_loopw [8, 12, 13] (fun o v _ wr => ∃ (i : Nat) (L : List Int) (oa : Option Addr) (oc : Nat), i ≤ xs.length ∧ v = .int .i64 (i : Int) ∧ o = .slice oa L.length oc ∧ L.length ≤ i * 3 ∧ Hid (L = (xs.take i).flatMap (fun x => List.replicate (oft x) x)) ∧ Hid (LkS W1 L oa oc wr)) (fun _ v _ _ => xs.length - (intOf v).toNat)
  case atStart => exact ⟨0, [], none, 0, by omega, rfl, rfl, by simp, rfl, LkS.nil W1⟩
  case round =>
    obtain ⟨i, L, oa, oc, hi, rfl, rfl, hLi, HE, HO⟩ := hrel
    have hws := HO.out.2.size
    have hkw : W.heap.size < wr.heap.size := by omega
    by_cases hlt : i < xs.length
    · obtain ⟨x, hx⟩ : ∃ x, xs[i]? = some x := ⟨_, List.getElem?_eq_getElem hlt⟩
      have hof : oft x ≤ 3 := by unfold oft; split <;> omega
      have HE2 : Hid (L ++ List.replicate (oft x) x = (xs.take (i + 1)).flatMap (fun x => List.replicate (oft x) x)) := by show _ = _; rw [take_one hx, List.flatMap_append, ← HE.out]; simp
      have HX : Hid (∀ wr2, Below W1.heap.size W1 wr2 → ∃ g o, la = some ⟨g, o, none⟩ ∧ g < wr2.heap.size ∧ wr2.cell? ⟨g, o + i, none⟩ = some (.int .i64 x)) := fun wr2 hb => HL.out.at HKb.out.2 hb hx
      obtain ⟨m, hm⟩ : ∃ m, oft x = m := ⟨_, rfl⟩
      have HM : Hid (oft x = m) := hm
      have hof3 : m ≤ 3 := by omega
      have hot := fun W => often_any W x
      rw [hm] at hot HE2
      clear hx hof hm
      go_wp2
      go_loopw [8, 13] (fun o v wr => ∃ (j : Nat) (oa : Option Addr) (oc : Nat), j ≤ m ∧ v = .int .i64 (j : Int) ∧ o = .slice oa (L.length + j) oc ∧ Hid (LkS W1 (L ++ List.replicate j x) oa oc wr)) (fun _ v _ => m - (intOf v).toNat)
      case atStart => exact ⟨0, oa, oc, by omega, rfl, by simp, by show LkS _ _ _ _ _; simpa using HO.out⟩
      case round =>
        clear HO hws hkw
        obtain ⟨j, oa, oc, hj, rfl, rfl, HO⟩ := hrel
        have hws := HO.out.2.size
        obtain ⟨g, o, rfl, hg, hc⟩ := HX.out wr HO.out.2
        by_cases hjm : j < m
        · have hnl : (L ++ List.replicate j x).length = L.length + j := by simp
          have HO2 : Hid (LkS W1 (L ++ List.replicate j x) oa oc (wr.alloc (.cells #[.int .i64 x] 3))) := HO.out.alloc _
          have HOW : Hid ((wr.alloc (.cells #[.int .i64 x] 3)).ownsRow W1.heap.size 3 1 (.slice oa (L.length + j) oc) (L.length + j) (ivs (L ++ List.replicate j x))) := by
            have h := HO2.out.1
            rw [hnl] at h
            exact h
          have HAP : Hid (∀ va vc w1, w1.ownsRow W1.heap.size 3 1 (.slice va (L.length + j + 1) vc) (L.length + j + 1) (ivs (L ++ List.replicate j x) ++ [.int .i64 x]) → (wr.alloc (.cells #[.int .i64 x] 3)).grownBy w1 (Value.slice oa (L.length + j) oc).ownBlock → LkS W1 (L ++ List.replicate (j + 1) x) va vc w1) := by
            intro va vc w1 h1 h2
            have h := HO2.out.app (na := va) (nc := vc) (w' := w1) (x := x) (by rw [hnl]; exact h1) (by rw [hnl]; exact h2)
            rw [List.append_assoc, ← List.replicate_succ'] at h
            exact h
          clear hnl HO HO2
          have tok : True := trivial
          have tok0 : True := trivial
          go_wp2_with (first | (have _t := tok0; go_at_call 47; with_reducible refine (hot _).mono ?_; rintro e w' ⟨rfl, hw'⟩; have hw2 := hw'.symm; clear hw'; subst hw2; clear tok0 _t) | (at_builtin; have _t := tok; refine Bs.wpList_app rfl _ _ rfl Try.underlying47 infoB rfl (by decide) W1.heap.size (.slice oa (L.length + j) oc) (L.length + j) (ivs (L ++ List.replicate j x)) rfl HOW.out (some ⟨wr.heap.size, 0, none⟩) 1 1 [.int .i64 x] rfl rfl (news1 wr _ _) (by intro u hu; simp at hu; subst hu; rfl) (by unfold maxLen; omega) (by omega) (by simp; omega) ?_; intro v1 w1 hown1 hg1 _ hat1; obtain ⟨va, vc, hvv⟩ := own_slice hown1; subst hvv; clear tok _t))
          go_roundw
          case rel => exact ⟨j + 1, va, vc, by omega, by go_num, by rw [Nat.add_assoc], HAP.out va vc _ hown1 hg1⟩
          case measure => simp [intOf]; omega
        · have hjm2 : m = j := by omega
          have HE3 : Hid (L ++ List.replicate j x = (xs.take (i + 1)).flatMap (fun x => List.replicate (oft x) x)) := by show _ = _; rw [← hjm2]; exact HE2.out
          have hlen : L.length + j ≤ (i + 1) * 3 := by omega
          clear hjm2
          go_wp2_with (go_at_call 47; with_reducible refine (hot _).mono ?_; rintro e w' ⟨rfl, hw'⟩; have hw2 := hw'.symm; clear hw'; subst hw2)
          go_roundw
          case rel => exact ⟨i + 1, L ++ List.replicate j x, oa, oc, by omega, by go_num, by simp, by simp; omega, HE3, HO⟩
          case measure => simp [intOf]; omega
    · have HE2 : Hid (L = xs.flatMap (fun x => List.replicate (oft x) x)) := by show _ = _; rw [HE.out, List.take_of_length_le (by omega)]
      have hmk := mk_flat wr gf lb 48 #[]
      go_wp2_with fail
      with_reducible refine hmk.mono ?_
      rintro e w' ⟨rfl, rfl⟩
      go_wp2
      go_ret2
      rw [← HE2.out]
      have hRl : ∀ b, R b → b < W.heap.size := HS.out.1.lt W HS.out.2
      obtain ⟨Y, hY⟩ : ∃ Y, (wr.alloc (.cells #[.func (.func gf) #[] lb] 50)).alloc (.cells #[.func (.func 48) #[] #[]] 92) = Y := ⟨_, rfl⟩
      have tA : Tn (fun _ => False) wr Y := by rw [← hY]; exact ((Tn.refl _ _).alloc _).alloc _
      have y1 : IsC Y wr.heap.size #[.func (.func gf) #[] lb] := by rw [← hY]; exact (isC_new wr _ _).tn ((Tn.refl (fun _ => False) _).alloc _) id
      have y2 : IsC Y (wr.heap.size + 1) #[.func (.func 48) #[] #[]] := by
        rw [← hY]
        have h := isC_new (wr.alloc (.cells #[.func (.func gf) #[] lb] 50)) #[.func (.func 48) #[] #[]] 92
        simpa using h
      have tW : Tn (fun _ => False) W Y := (HKb.out.2.trans (Tn.of_below HO.out.2 (Nat.le_refl _)) (fun _ _ h => h)).trans tA (fun _ _ h => h)
      have hqY : Sq Y := HS.out.1.stab _ _ _ HS.out.2 tW (fun _ _ h => h)
      have kY : IsC Y W.heap.size (LinkC 3 ag ma mn mc false) := (HKb.out.1.tn (Tn.of_below (A := fun _ => False) HO.out.2 (Nat.le_refl _)) id).tn tA id
      have ef : ∀ args w, (callFunc 92 args).run Try.prog w = .ok (.enter 92 args) w := fun _ _ => by kernel_rfl
      rw [hY]
      have hse := flat_seq HS.out.1 eg (sb := wr.heap.size) (mb := wr.heap.size + 1) rep_flat (fun h => by have := hRl _ h; omega) (fun h => by have := hRl _ h; omega) (fun b hb => hb.elim)
      rw [← HE2.out] at hse
      have hz1 := HKb.out.2.size
      have hz2 := HO.out.2.size
      exact link_end HKb.out.2 HO.out tA ef hse ⟨hqY, y1, y2, trivial⟩ (fun b hb => ⟨.inl hb, .inl (Nat.lt_of_lt_of_le (hRl b (HS.out.1.sub b hb)) HKb.out.2.size)⟩) (fun b hb => by rcases hb with hb | hb | hb | hb; exact .inl hb; exact .inr (.inl (by omega)); exact .inr (.inl (by omega)); exact hb.elim)

end Go.Proofs.Ytjkgjckkglfokaa
