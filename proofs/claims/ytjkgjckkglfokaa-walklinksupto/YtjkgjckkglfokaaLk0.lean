/- linked: a link of an iterator, and its list in plain: Only. -/
import Derived.Test.YtjkgjckkglfokaaBs
import Derived.Test.YtjkgjckkglfokaaMk
import Derived.Test.YtjkgjckkglfokaaOnly
import Derived.Test.YtjkgjckkglfokaaNil
import Derived.Test.YtjkgjckkglfokaaLis
import Derived.Test.YtjkgjckkglfokaaCnt
namespace Go.Proofs.Ytjkgjckkglfokaa
open Go.RowKit Go.Shelf
set_option linter.unusedVariables false

/-- What a link leaves: an iterator that tells xs, and these numbers in a row. -/
def LinkP (N : Nat) (W : World) (R T K0 : Nat → Prop) (xs : List Int) (e : Ending) (Y : World) : Prop :=
  ∃ gf lb R' T' Sq' a c K, e = .returned (.tuple #[.func (.func gf) #[] lb, .slice a xs.length c]) ∧ (∀ args w, (callFunc gf args).run Try.prog w = .ok (.enter gf args) w) ∧ IsSeq Try.prog gf lb encI xs R' T' Sq' ∧ Sq' Y ∧ NumsAt Y K a xs ∧ (∀ b, K b → ¬ T' b ∧ b < Y.heap.size ∧ (K0 b ∨ W.heap.size ≤ b)) ∧ (∀ b, T' b → T b ∨ W.heap.size ≤ b) ∧ Tn (fun _ => False) W Y ∧ ∀ b, R' b → R b ∨ W.heap.size ≤ b ∨ b < N

/-- A row of one's own, as numbers. -/
theorem nums_own {w : World} {base : Nat} {a : Option Addr} {c : Nat} {L : List Int} (h : w.ownsRow base 3 1 (.slice a L.length c) L.length (ivs L)) : NumsAt w (fun b => base ≤ b ∧ (Value.slice a L.length c).ownBlock = some b ∧ b < w.heap.size) a L := by
  intro i x hx
  obtain ⟨-, -, h3⟩ := Bs.row_cell h
  obtain ⟨g, rfl, h4, h5, h6⟩ := h3 i (.int .i64 x) (by simp [ivs, hx])
  exact ⟨g, 0, rfl, ⟨h4, rfl, h5⟩, h5, by simpa using h6⟩
theorem infoB : Bs.InfoOf Try.prog 3 (.int .i64 0) 1 8 := by unfold Bs.InfoOf; kernel_rfl
theorem news1 (w : World) (v : Value) (t : TypeId) : ∀ j u, [v][j]? = some u → ∃ ad, (some ⟨w.heap.size, 0, none⟩ : Option Addr) = some ad ∧ (w.alloc (.cells #[v] t)).cell? (ad.add j) = some u := by
  intro j u hu
  refine ⟨_, rfl, ?_⟩
  match j, hu with
  | 0, hu =>
    simp at hu
    subst hu
    have h := (isC_new w #[v] t).cell 0
    have e : (⟨w.heap.size, 0, none⟩ : Addr).add 0 = ⟨w.heap.size, 0, none⟩ := by unfold Addr.add; split <;> simp_all
    rw [e, h]
    rfl
  | j + 1, hu => simp at hu

/-- Numbers in memory that stay. -/
def NumsB (W : World) (a : Option Addr) (L : List Int) : Prop := ∀ i x, L[i]? = some x → ∃ g o, a = some ⟨g, o, none⟩ ∧ g < W.heap.size ∧ W.cell? ⟨g, o + i, none⟩ = some (.int .i64 x)

theorem NumsB.at {W W1 wr : World} {a : Option Addr} {L : List Int} (h : NumsB W a L) (t : Tn (fun _ => False) W W1) (hb : Below W1.heap.size W1 wr) {i : Nat} {x : Int} (hx : L[i]? = some x) : ∃ g o, a = some ⟨g, o, none⟩ ∧ g < wr.heap.size ∧ wr.cell? ⟨g, o + i, none⟩ = some (.int .i64 x) := by
  obtain ⟨g, o, rfl, hg, hc⟩ := h i x hx
  have h1 : g < W1.heap.size := Nat.lt_of_lt_of_le hg t.size
  refine ⟨g, o, rfl, Nat.lt_of_lt_of_le h1 hb.size, ?_⟩
  rw [hb.cell (p := ⟨g, o + i, none⟩) h1]
  simp only [World.cell?] at hc ⊢
  rw [t.block g hg id]
  exact hc
/-- The list under way: a row of one's own behind W1. -/
def LkS (W1 : World) (L : List Int) (oa : Option Addr) (oc : Nat) (wr : World) : Prop := wr.ownsRow W1.heap.size 3 1 (.slice oa L.length oc) L.length (ivs L) ∧ Below W1.heap.size W1 wr
theorem LkS.nil (W1 : World) : LkS W1 [] none 0 W1 := ⟨⟨rfl, .inl ⟨rfl, rfl⟩⟩, Below.refl _ _⟩
theorem take_one {α : Type} {l : List α} {i : Nat} {x : α} (h : l[i]? = some x) : l.take (i + 1) = l.take i ++ [x] := by
  have hlt := (List.getElem?_eq_some_iff.1 h).1
  rw [List.take_succ_eq_append_getElem hlt, (List.getElem?_eq_some_iff.1 h).2]
theorem LkS.bel {W1 : World} {L : List Int} {oa : Option Addr} {oc : Nat} {wr : World} (h : LkS W1 L oa oc wr) (u : Bs.Bel wr) : LkS W1 L oa oc u.w :=
  ⟨own_of_block h.1 (fun k hk => u.h.block k (own_block_lt h.1 k hk).2), h.2.trans (u.h.mono h.2.size)⟩
theorem LkS.alloc {W1 : World} {L : List Int} {oa : Option Addr} {oc : Nat} {wr : World} (h : LkS W1 L oa oc wr) (o : Obj) : LkS W1 L oa oc (wr.alloc o) :=
  ⟨own_of_block h.1 (fun k hk => Below.heap_alloc _ _ _ (own_block_lt h.1 k hk).2), h.2.alloc h.2.size _⟩
theorem LkS.app {W1 : World} {L : List Int} {oa na : Option Addr} {oc nc : Nat} {w w' : World} {x : Int} (h : LkS W1 L oa oc w) (h1 : w'.ownsRow W1.heap.size 3 1 (.slice na (L.length + 1) nc) (L.length + 1) (ivs L ++ [.int .i64 x])) (hg : w.grownBy w' (Value.slice oa L.length oc).ownBlock) : LkS W1 (L ++ [x]) na nc w' := by
  refine ⟨?_, h.2.grown hg h.2.size (fun k hk => (own_block_lt h.1 k hk).1)⟩
  have e : ivs (L ++ [x]) = ivs L ++ [.int .i64 x] := by simp [ivs]
  rw [e, List.length_append]
  exact h1
/-- What a link leaves, of its parts. -/
theorem link_end {N : Nat} {W W1 wr Y : World} {R T K0 R' T' : Nat → Prop} {Sq' : World → Prop} {L : List Int} {oa : Option Addr} {oc gf : Nat} {lb : Array Value} (t1 : Tn (fun _ => False) W W1) (h : LkS W1 L oa oc wr) (tY : Tn (fun _ => False) wr Y) (eg : ∀ args w, (callFunc gf args).run Try.prog w = .ok (.enter gf args) w) (hs : IsSeq Try.prog gf lb encI L R' T' Sq') (hq : Sq' Y) (hT : ∀ b, T' b → (T b ∨ W.heap.size ≤ b) ∧ (b < W1.heap.size ∨ wr.heap.size ≤ b)) (hR : ∀ b, R' b → R b ∨ W.heap.size ≤ b ∨ b < N) :
    LinkP N W R T K0 L (.returned (.tuple #[.func (.func gf) #[] lb, .slice oa L.length oc])) Y := by
  have tW : Tn (fun _ => False) W wr := t1.trans (Tn.of_below h.2 (Nat.le_refl _)) (fun _ _ h => h)
  refine ⟨gf, lb, R', T', Sq', oa, oc, _, rfl, eg, hs, hq, NumsAt.tn (nums_own h.1) tY (fun _ _ h => h), fun b hb => ⟨fun ht => ?_, Nat.lt_of_lt_of_le hb.2.2 tY.size, .inr (Nat.le_trans t1.size hb.1)⟩, fun b hb => (hT b hb).1, tW.trans tY (fun _ _ h => h), hR⟩
  have := (hT b ht).2
  have := hb.1
  have := hb.2.2
  omega

attribute [local go_sem] Bs.Bel.cell Bs.Bel.fz
set_option maxRecDepth 100000 in
set_option maxHeartbeats 4000000 in
theorem linked_only {gf : Nat} {lb : Array Value} {xs : List Int} {R T : Nat → Prop} {Sq : World → Prop} (hs : IsSeq Try.prog gf lb encI xs R T Sq) (eg : ∀ args w, (callFunc gf args).run Try.prog w = .ok (.enter gf args) w)
    (N : Nat) (K0 : Nat → Prop) (W : World) (hq : Sq W) (la : Option Addr) (lc : Nat) (hL : NumsB W la xs) (hl : xs.length ≤ 1048576) (ag : Int) (ma : Option Addr) (mn mc : Nat) :
    Calls Try.prog 14 #[.func (.func gf) #[] lb, .slice la xs.length lc, .agg (LinkC 0 ag ma mn mc false)] W (LinkP N W R T K0 (xs.filter (dvd0 ag))) := by
  obtain ⟨W1, hW1⟩ : ∃ W1, W.alloc (.cells (LinkC 0 ag ma mn mc false) 56) = W1 := ⟨_, rfl⟩
  have HW1 : Hid (W.alloc (.cells (LinkC 0 ag ma mn mc false) 56) = W1) := hW1
  have hk : IsC W1 W.heap.size (LinkC 0 ag ma mn mc false) := by rw [← hW1]; exact isC_new _ _ _
  have t1 : Tn (fun _ => False) W W1 := by rw [← hW1]; exact (Tn.refl _ _).alloc _
  have HKb : Hid (IsC W1 W.heap.size (LinkC 0 ag ma mn mc false) ∧ Tn (fun _ => False) W W1) := ⟨hk, t1⟩
  have k0 : W1.cell? ⟨W.heap.size, 0, none⟩ = some (.int .i64 0) := hk.cell 0
  have k1 : W1.cell? ⟨W.heap.size, 1, none⟩ = some (.int .i64 ag) := hk.cell 1
  have k2 : W1.cell? ⟨W.heap.size, 2, none⟩ = some (.slice ma mn mc) := hk.cell 2
  have k3 : W1.cell? ⟨W.heap.size, 3, none⟩ = some (.bool false) := hk.cell 3
  have hkl := hk.lt
  have HL : Hid (NumsB W la xs) := hL
  have HS : Hid (IsSeq Try.prog gf lb encI xs R T Sq ∧ Sq W) := ⟨hs, hq⟩
  have HBW : Hid (W1.heap.size = W.heap.size + 1) := by show _ = _; rw [← hW1]; simp
  clear hW1 hk t1 hL hs hq
  unfold LinkC at HW1
  unfold LinkC
  go_enter Try.func14, Try.ntmps14
  go_wp2
  rw [HW1.out]
  go_loopw [8, 9] (fun o v wr => ∃ (i : Nat) (L : List Int) (oa : Option Addr) (oc : Nat), i ≤ xs.length ∧ v = .int .i64 (i : Int) ∧ o = .slice oa L.length oc ∧ L.length ≤ i ∧ Hid (L = (xs.take i).filter (dvd0 ag)) ∧ Hid (LkS W1 L oa oc wr)) (fun _ v _ => xs.length - (intOf v).toNat)
  case atStart => exact ⟨0, [], none, 0, by omega, rfl, rfl, Nat.le_refl _, rfl, LkS.nil W1⟩
  case round =>
    obtain ⟨i, L, oa, oc, hi, rfl, rfl, hLi, HE, HO⟩ := hrel
    have hws := HO.out.2.size
    have hkw : W.heap.size < wr.heap.size := by omega
    have c1 : wr.cell? ⟨W.heap.size, 1, none⟩ = some (.int .i64 ag) := (HO.out.2.cell (p := ⟨W.heap.size, 1, none⟩) hkl).trans k1
    by_cases hlt : i < xs.length
    · obtain ⟨x, hx⟩ : ∃ x, xs[i]? = some x := ⟨_, List.getElem?_eq_getElem hlt⟩
      obtain ⟨g, o, rfl, hg, hc⟩ := HL.out.at HKb.out.2 HO.out.2 hx
      have HT : Hid (xs.take (i + 1) = xs.take i ++ [x]) := take_one hx
      have hdv := fun W => divides_any W ag x
      clear hx
      cases hd : dvd0 ag x with
      | false =>
        rw [hd] at hdv
        have HE2 : Hid (L = (xs.take (i + 1)).filter (dvd0 ag)) := by show _ = _; rw [HT.out, List.filter_append, ← HE.out]; simp [hd]
        clear hd
        go_wp2_with fail
        refine Bs.wp_region_bel (by kernel_rfl) (by kernel_rfl) ?_
        intro hne
        repeat go_big_quiet_step ((go_at_call 43; with_reducible exact Bs.Calls.bel_of_same (hdv _)))
        refine wpQuiet_nil ?_
        rintro _ ⟨u, rfl⟩
        have HO2 : Hid (LkS W1 L oa oc u.w) := HO.out.bel u
        go_wp2
        go_roundw
        case rel => exact ⟨i + 1, L, oa, oc, by omega, by go_num, rfl, by omega, HE2, HO2⟩
        case measure => simp [intOf]; omega
      | true =>
        rw [hd] at hdv
        have HE2 : Hid (L ++ [x] = (xs.take (i + 1)).filter (dvd0 ag)) := by show _ = _; rw [HT.out, List.filter_append, ← HE.out]; simp [hd]
        clear hd
        go_wp2_with fail
        refine Bs.wp_region_bel (by kernel_rfl) (by kernel_rfl) ?_
        intro hne
        repeat go_big_quiet_step ((go_at_call 43; with_reducible exact Bs.Calls.bel_of_same (hdv _)))
        refine wpQuiet_nil ?_
        rintro _ ⟨u, rfl⟩
        have HO2 : Hid (LkS W1 L oa oc (u.w.alloc (.cells #[.int .i64 x] 3))) := (HO.out.bel u).alloc _
        have hz2 : W1.heap.size ≤ u.w.heap.size := Nat.le_trans hws u.h.size
        have tok : True := trivial
        go_wp2_with (have _t := tok; refine Bs.wpList_app rfl _ _ rfl Try.underlying47 infoB rfl (by decide) W1.heap.size (.slice oa L.length oc) L.length (ivs L) rfl HO2.out.1 (some ⟨u.w.heap.size, 0, none⟩) 1 1 [.int .i64 x] rfl rfl (news1 u.w _ _) (by intro u hu; simp at hu; subst hu; rfl) (by unfold maxLen; omega) (by omega) (by simp; omega) ?_; intro v1 w1 hown1 hg1 _ hat1; obtain ⟨va, vc, hvv⟩ := own_slice hown1; subst hvv; clear tok _t)
        go_roundw
        case rel => exact ⟨i + 1, L ++ [x], va, vc, by omega, by go_num, by simp, by simp; omega, HE2, HO2.out.app hown1 hg1⟩
        case measure => simp [intOf]; omega
    · have HE2 : Hid (L = xs.filter (dvd0 ag)) := by show _ = _; rw [HE.out, List.take_of_length_le (by omega)]
      have hmk := mk_only wr gf lb 44 #[.pointer (some ⟨W.heap.size, 0, none⟩)]
      go_wp2_with fail
      with_reducible refine hmk.mono ?_
      rintro e w' ⟨rfl, rfl⟩
      go_wp2
      go_ret2
      rw [← HE2.out]
      have hRl : ∀ b, R b → b < W.heap.size := HS.out.1.lt W HS.out.2
      obtain ⟨Y, hY⟩ : ∃ Y, (wr.alloc (.cells #[.func (.func gf) #[] lb] 50)).alloc (.cells #[.func (.func 44) #[] #[.pointer (some ⟨W.heap.size, 0, none⟩)]] 63) = Y := ⟨_, rfl⟩
      have tA : Tn (fun _ => False) wr Y := by rw [← hY]; exact ((Tn.refl _ _).alloc _).alloc _
      have y1 : IsC Y wr.heap.size #[.func (.func gf) #[] lb] := by rw [← hY]; exact (isC_new wr _ _).tn ((Tn.refl (fun _ => False) _).alloc _) id
      have y2 : IsC Y (wr.heap.size + 1) #[.func (.func 44) #[] #[.pointer (some ⟨W.heap.size, 0, none⟩)]] := by
        rw [← hY]
        have h := isC_new (wr.alloc (.cells #[.func (.func gf) #[] lb] 50)) #[.func (.func 44) #[] #[.pointer (some ⟨W.heap.size, 0, none⟩)]] 63
        simpa using h
      have tW : Tn (fun _ => False) W Y := (HKb.out.2.trans (Tn.of_below HO.out.2 (Nat.le_refl _)) (fun _ _ h => h)).trans tA (fun _ _ h => h)
      have hqY : Sq Y := HS.out.1.stab _ _ _ HS.out.2 tW (fun _ _ h => h)
      have kY : IsC Y W.heap.size (LinkC 0 ag ma mn mc false) := (HKb.out.1.tn (Tn.of_below (A := fun _ => False) HO.out.2 (Nat.le_refl _)) id).tn tA id
      have ef : ∀ args w, (callFunc 91 args).run Try.prog w = .ok (.enter 91 args) w := fun _ _ => by kernel_rfl
      rw [hY]
      have hse := only_seq HS.out.1 eg (sb := wr.heap.size) (mb := wr.heap.size + 1) (div_fn (kb := W.heap.size) (kd := 0) (ag := ag) (ma := ma) (mn := mn) (mc := mc) (nl := false)) (fun h => by have := hRl _ h; omega) (fun h => by have := hRl _ h; omega) (fun b hb h => by have := hRl _ h; omega)
      rw [← HE2.out] at hse
      have hz1 := HKb.out.2.size
      have hz2 := HO.out.2.size
      exact link_end HKb.out.2 HO.out tA ef hse ⟨hqY, y1, y2, kY⟩ (fun b hb => ⟨.inl hb, .inl (Nat.lt_of_lt_of_le (hRl b (HS.out.1.sub b hb)) HKb.out.2.size)⟩) (fun b hb => by rcases hb with hb | hb | hb | hb; exact .inl hb; exact .inr (.inl (by omega)); exact .inr (.inl (by omega)); exact .inr (.inl (by omega)))

end Go.Proofs.Ytjkgjckkglfokaa
