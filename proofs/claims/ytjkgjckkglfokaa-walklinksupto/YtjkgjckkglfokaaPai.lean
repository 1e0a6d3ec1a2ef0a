/- Pairs. -/
import Derived.Test.YtjkgjckkglfokaaPrw
import Derived.Test.YtjkgjckkglfokaaRq
import Derived.Test.YtjkgjckkglfokaaMost
namespace Go.Proofs.Ytjkgjckkglfokaa
open Go.RowKit Go.Shelf
set_option linter.unusedVariables false
attribute [local go_sem] Oper.semAt_some

set_option maxRecDepth 100000 in
set_option maxHeartbeats 4000000 in
theorem pairs_seq {gf : Nat} {lb : Array Value} {xs : List Int} {R T : Nat → Prop} {Sq : World → Prop} (hs : IsSeq Try.prog gf lb encI xs R T Sq) (eg : ∀ args w, (callFunc gf args).run Try.prog w = .ok (.enter gf args) w)
    {hf : Nat} {hb : Array Value} {ys : List Int} {R' T' : Nat → Prop} {Sq' : World → Prop} (ht : IsSeq Try.prog hf hb encI ys R' T' Sq') (eh : ∀ args w, (callFunc hf args).run Try.prog w = .ok (.enter hf args) w)
    {sb tb : Nat} (n1 : ¬ R sb) (n2 : ¬ R tb) (n3 : ¬ R' sb) (n4 : ¬ R' tb) (h12 : ∀ b, R b → ¬ T' b) (h21 : ∀ b, R' b → ¬ T b) (hl : ys.length < 1099511627776) :
    IsSeq Try.prog 53 #[.pointer (some ⟨sb, 0, none⟩), .pointer (some ⟨tb, 0, none⟩)] encP (xs.zip ys) (fun b => R b ∨ R' b ∨ b = sb ∨ b = tb) (fun b => T b ∨ T' b) (fun W => Sq W ∧ Sq' W ∧ IsC W sb #[.func (.func gf) #[] lb] ∧ IsC W tb #[.func (.func hf) #[] hb]) := by
  refine ⟨fun b hb => hb.elim (fun h => .inl (hs.sub b h)) (fun h => .inr (.inl (ht.sub b h))), fun W h b hb => ?_, fun W W' A h t hA => ⟨hs.stab _ _ _ h.1 t (fun b hb => hA b (.inl hb)), ht.stab _ _ _ h.2.1 t (fun b hb => hA b (.inr (.inl hb))), h.2.2.1.tn t (hA _ (.inr (.inr (.inl rfl)))), h.2.2.2.tn t (hA _ (.inr (.inr (.inr rfl))))⟩, ?_⟩
  · rcases hb with hb | hb | rfl | rfl
    · exact hs.lt _ h.1 b hb
    · exact ht.lt _ h.2.1 b hb
    · exact h.2.2.1.lt
    · exact h.2.2.2.lt
  · rintro W l J Jx C0 D ⟨hq, hq', hsb, htb⟩ stJ stJx hY h0 hd hdT
    have a1 : W.cell? ⟨sb, 0, none⟩ = some (.func (.func gf) #[] lb) := hsb.cell 0
    have a2 : W.cell? ⟨tb, 0, none⟩ = some (.func (.func hf) #[] hb) := htb.cell 0
    have l1 := hsb.lt
    have l2 := htb.lt
    obtain ⟨W0, hW0⟩ : ∃ W0, ((W.alloc (.cells #[.func (.yield l) #[] #[]] 90)).alloc (.cells #[.int .i64 0] 3)).alloc (.cells #[.slice none 0 0] 47) = W0 := ⟨_, rfl⟩
    have HW0 : Hid (((W.alloc (.cells #[.func (.yield l) #[] #[]] 90)).alloc (.cells #[.int .i64 0] 3)).alloc (.cells #[.slice none 0 0] 47) = W0) := hW0
    clear hW0
    have hq1 : ∀ w, (binOp .eql 50 (.func (.func gf) #[] lb) .nilFunc).run Try.prog w = .ok (.bool false) w := fun _ => by kernel_rfl
    have hq2 : ∀ w, (binOp .eql 50 (.func (.func hf) #[] hb) .nilFunc).run Try.prog w = .ok (.bool false) w := fun _ => by kernel_rfl
    have HY : Hid (RoundOk Try.prog l encP (xs.zip ys) J Jx) := hY
    have HD : Hid (∀ b, C0 b → ¬ (R b ∨ R' b ∨ b = sb ∨ b = tb)) := hd
    have HDT : Hid (∀ b, D b → ¬ (T b ∨ T' b)) := hdT
    have HSJ : Hid (Stb D J ∧ Stb D Jx) := ⟨stJ, stJx⟩
    have HH0 : Hid (J [] C0 W) := h0
    have HSB : Hid (IsC W sb #[.func (.func gf) #[] lb] ∧ IsC W tb #[.func (.func hf) #[] hb] ∧ Sq W ∧ Sq' W) := ⟨hsb, htb, hq, hq'⟩
    have HS : Hid (IsSeq Try.prog gf lb encI xs R T Sq) := hs
    have HT : Hid (IsSeq Try.prog hf hb encI ys R' T' Sq') := ht
    have HR : Hid ((¬ R sb ∧ ¬ R tb ∧ ¬ R' sb ∧ ¬ R' tb) ∧ (∀ b, R b → ¬ T' b) ∧ (∀ b, R' b → ¬ T b)) := ⟨⟨n1, n2, n3, n4⟩, h12, h21⟩
    have l1s : sb < W.heap.size + 1 := by omega
    have l2s : tb < W.heap.size + 1 := by omega
    have l1t : sb < W.heap.size + 2 := by omega
    have l1u : sb < W.heap.size + 3 := by omega
    clear hdT hY hd stJ stJx h0 hsb htb hq hq' hs ht n1 n2 n3 n4 h12 h21
    refine callsIn_of_wp_marks Try.func53 rfl trivial ?_ rfl
    simp only [Try.ntmps53, List.size_toArray, List.length_cons, List.length_nil, Nat.reduceAdd, Nat.reduceSub, Array.replicate_succ, Array.replicate_zero, List.push_toArray, List.append_toArray, List.nil_append, List.cons_append]
    gi_wp2_with fail
    rw [HW0.out]
    have t0 : Tn (fun _ => False) W W0 := by rw [← HW0.out]; exact (((Tn.refl _ _).alloc _).alloc _).alloc _
    have hy0 : IsC W0 W.heap.size #[.func (.yield l) #[] #[]] ∧ IsC W0 (W.heap.size + 1) #[.int .i64 0] ∧ IsC W0 (W.heap.size + 2) #[.slice none 0 0] := by
      rw [← HW0.out]
      have n := fun (w : World) (o : Obj) => (Tn.refl (fun _ => False) w).alloc o
      have y1 := isC_new W #[.func (.yield l) #[] #[]] 90
      have y2 := isC_new (W.alloc (.cells #[.func (.yield l) #[] #[]] 90)) #[.int .i64 0] 3
      have y3 := isC_new ((W.alloc (.cells #[.func (.yield l) #[] #[]] 90)).alloc (.cells #[.int .i64 0] 3)) #[.slice none 0 0] 47
      refine ⟨(y1.tn (n _ _) id).tn (n _ _) id, ?_, ?_⟩
      · simpa using y2.tn (n _ _) id
      · simpa using y3
    have hz : W.heap.size + 2 < W0.heap.size := hy0.2.2.lt
    have hC0l : ∀ b, C0 b → b < W.heap.size := fun b hb => HSJ.out.1.1 _ _ _ HH0.out b (.inl hb)
    have hDl : ∀ b, D b → b < W.heap.size := fun b hb => HSJ.out.1.1 _ _ _ HH0.out b (.inr hb)
    have hRl : ∀ b, R b → b < W.heap.size := HS.out.lt _ HSB.out.2.2.1
    have hRl' : ∀ b, R' b → b < W.heap.size := HT.out.lt _ HSB.out.2.2.2
    have hW : Sq W0 := HS.out.stab _ _ _ HSB.out.2.2.1 t0 (fun _ _ h => h)
    have hI0 : PairI J ys R' T' Sq' W.heap.size l hf hb tb [] (fun b => C0 b ∨ T' b ∨ (b = W.heap.size ∨ b = W.heap.size + 1 ∨ b = W.heap.size + 2) ∨ Rb (.slice none 0 0) [] b) W0 := by
      refine ⟨C0, _, [], ys, rfl, HSJ.out.1.2 _ _ _ _ _ HH0.out t0 (fun _ _ h => h), by simp, by simp, HT.out.stab _ _ _ HSB.out.2.2.2 t0 (fun _ _ h => h), HSB.out.2.1.tn t0 id, hy0.1, hy0.2.1, hy0.2.2, .nil _ _ _ _, fun b hb hc => ?_⟩
      have := hC0l b hc
      rcases hb with (hb | rfl) | hb | hb
      · exact HD.out b hc (.inr (.inl hb))
      · exact HD.out _ hc (.inr (.inr (.inr rfl)))
      · omega
      · exact hb.1 rfl
    refine range_it (gf := gf) (lb := lb) rfl eg (encs := encI) (fun _ => rfl) HS.out hW (PairI J ys R' T' Sq' W.heap.size l hf hb tb) (PairX J Jx (xs.zip ys) T' Sq' W.heap.size hf hb tb) (fun b => D b ∨ R' b ∨ b = tb) (PairI.stb HSJ.out.1 HT.out.sub HT.out.lt HT.out.stab) (fun c => PairX.stb HSJ.out.1 HSJ.out.2 HT.out.sub HT.out.lt HT.out.stab) _ hI0 (fun b hb hr => ?_) (fun b hb ht => ?_)
      (fun x a' => a' = { tmps := #[.func (.yield l) #[] #[], .pointer (some ⟨sb, 0, none⟩), .pointer (some ⟨tb, 0, none⟩), .pointer (some ⟨W.heap.size, 0, none⟩), .pointer (some ⟨W.heap.size + 1, 0, none⟩), .pointer (some ⟨W.heap.size + 1 + 1, 0, none⟩), .int .i64 x, .func (.func gf) #[] lb, .bool false, .bool false, .func (.func hf) #[] hb, .bool false, .bool false, .func (.func gf) #[] lb, .int .i64 x, undef, undef, undef, undef, undef, undef, undef, undef, undef, undef, undef, undef, undef, undef, undef, undef, undef, undef, undef, undef, undef, undef, undef, undef], defers := [] })
      ?assign ?body ?done ?stop
    · rcases hb with hb | hb | hb | hb
      · exact HD.out b hb (.inl hr)
      · exact HR.out.2.1 b hr hb
      · have := hRl b hr
        omega
      · exact hb.1 rfl
    · rcases hb with hb | hb | rfl
      · exact HDT.out b hb (.inl ht)
      · exact HR.out.2.2 b hb ht
      · exact HR.out.1.2.1 (HS.out.sub _ ht)
    case assign =>
      intro l2 x X Kc hK
      unfold encI
      gi_wp2
      rfl
    case body =>
      rintro l3 pre x a' C X hpre ⟨Cj, v, zs, rest, rfl, hPW⟩ rfl
      have HW : Hid (PairW J ys R' T' Sq' W.heap.size l hf hb tb pre Cj v zs rest X) := hPW
      clear hPW hI0
      have hmo : Try.prog.follows Departure.mixedOrders = true := by kernel_rfl
      have hn1 : ∀ b w, (Op.unary UnOp.not (.bool b)).run Try.prog w = .ok (.bool (!b)) w := fun b _ => by cases b <;> kernel_rfl
      have HZ : Hid ((∀ z r, ys.drop pre.length = z :: r → pre.zip ys ++ [(x, z)] <+: xs.zip ys) ∧ pre.length < 1099511627776) := by
        refine ⟨fun z r h => ?_, ?_⟩
        · have := zip_pre (ys := ys) hpre
          rwa [(zip_more (x := x) (zs := r) (rest := []) (by simpa using h)).1] at this
        · have := HW.out.2.1
          omega
      have hpl := HZ.out.2
      have HPX : Hid (pre ++ [x] <+: xs) := hpre
      clear hpre
      cases zs with
      | nil =>
        obtain ⟨va, vc, rfl⟩ : ∃ a c, v = .slice a 0 c := by
          rcases HW.out.2.2.2.2.2.2.2.2.1 with ⟨_, h⟩ | ⟨g, o, c, cs, rfl, _, h, _⟩
          · exact h
          · simp at h
        obtain ⟨L, hL⟩ : ∃ L, (ys.take (pre.length + (1 + pre.length / 16))).drop pre.length = L := ⟨_, rfl⟩
        have tD : Tn (fun _ => False) X X.drew := (Tn.refl _ _).drew
        have hst := stretch_any HT.out eh X.drew (HT.out.stab _ _ _ HW.out.2.2.2.1 tD (fun _ _ h => h)) pre.length (1 + pre.length / 16) (by omega) (by omega) hl
        rw [hL] at hst
        have hat := atOnce_any X.drew pre.length (by omega)
        have k5 : X.cell? ⟨W.heap.size + 1 + 1, 0, none⟩ = some (.slice va 0 vc) := HW.out.2.2.2.2.2.2.2.1.cell 0
        have k4 : X.drew.cell? ⟨W.heap.size + 1, 0, none⟩ = some (.int .i64 (pre.length : Int)) := HW.out.2.2.2.2.2.2.1.cell 0
        have k2 : X.drew.cell? ⟨tb, 0, none⟩ = some (.func (.func hf) #[] hb) := HW.out.2.2.2.2.1.cell 0
        have hXN : W.heap.size + 3 ≤ X.heap.size := HW.out.2.2.2.2.2.2.2.1.lt
        have HL : Hid ((ys.take (pre.length + (1 + pre.length / 16))).drop pre.length = L) := hL
        have nT : ∀ b, W.heap.size ≤ b → ¬ T' b := fun b hb' h => by have := hRl' b (HT.out.sub b h); omega
        have HFZ : Hid (∀ Y, Tn T' X.drew Y → Y.frozen? ⟨W.heap.size + 1 + 1, 0, none⟩ = false ∧ Y.cell? ⟨W.heap.size + 1 + 1, 0, none⟩ = some (.slice va 0 vc) ∧ W.heap.size + 1 + 1 < Y.heap.size) := by
          intro Y tY
          have h := (HW.out.2.2.2.2.2.2.2.1.tn tD id).tn tY (nT _ (by omega))
          exact ⟨h.frozen 0, h.cell 0, h.lt⟩
        have HMO : Hid (∀ sa sc Y, Y.ownsRow X.drew.heap.size 3 1 (.slice sa L.length sc) L.length (ivs L) → Tn T' X.drew Y → Sq' Y → PairW J ys R' T' Sq' W.heap.size l hf hb tb pre Cj (.slice sa L.length sc) L (ys.drop (pre.length + (1 + pre.length / 16))) (Y.setCell ⟨W.heap.size + 1 + 1, 0, none⟩ (.slice sa L.length sc)) ∧ Tn (PairC T' W.heap.size Cj (.slice va 0 vc) []) X (Y.setCell ⟨W.heap.size + 1 + 1, 0, none⟩ (.slice sa L.length sc)) ∧ ∀ b, PairC T' W.heap.size Cj (.slice sa L.length sc) L b → PairC T' W.heap.size Cj (.slice va 0 vc) [] b ∨ X.heap.size ≤ b) := by
          intro sa sc Y o1 t1 g1
          exact pair_more HW.out HSJ.out.1 (fun b hb' h => HDT.out b hb' (.inr h)) hDl HT.out.sub hRl' (fun h => HR.out.1.2.2.2 (HT.out.sub _ h)) l2 HT.out.stab HL.out ((tD.mono (B := T') (fun _ _ h => h.elim)).trans t1 (fun _ _ h => h)) g1 o1 hXN
        clear hL tD nT
        gi_wp2_with fail
        rename_i K hK0
        have hK : ∀ sa sc Y, Hid (Y.ownsRow X.drew.heap.size 3 1 (.slice sa L.length sc) L.length (ivs L) ∧ Tn T' X.drew Y ∧ Sq' Y) → K { tmps := #[.func (.yield l) #[] #[], .pointer (some ⟨sb, 0, none⟩), .pointer (some ⟨tb, 0, none⟩), .pointer (some ⟨W.heap.size, 0, none⟩), .pointer (some ⟨W.heap.size + 1, 0, none⟩), .pointer (some ⟨W.heap.size + 1 + 1, 0, none⟩), .int .i64 x, .func (.func gf) #[] lb, .bool false, .bool false, .func (.func hf) #[] hb, .bool false, .bool false, .func (.func gf) #[] lb, .int .i64 x, .slice va 0 vc, .int .i64 0, .bool true, .func (.func hf) #[] hb, .int .i64 (pre.length : Int), .int .i64 (pre.length : Int), .int .i64 (1 + (pre.length : Int) / 16), .slice sa L.length sc, undef, undef, undef, undef, undef, undef, undef, undef, undef, undef, undef, undef, undef, undef, undef, undef], defers := [] } (Y.setCell ⟨W.heap.size + 1 + 1, 0, none⟩ (.slice sa L.length sc)) := by
          intro sa sc Y HY2
          obtain ⟨p1, p2, p3⟩ := HMO.out sa sc Y HY2.out.1 HY2.out.2.1 HY2.out.2.2
          generalize Y.setCell ⟨W.heap.size + 1 + 1, 0, none⟩ (.slice sa L.length sc) = X1 at *
          apply hK0
          clear hst hat k5 k4 k2 HFZ HMO HY2
          cases hLL : L with
          | nil =>
            subst hLL
            have HE : Hid (∀ nq, RPost (PairI J ys R' T' Sq' W.heap.size l hf hb tb) (PairX J Jx (xs.zip ys) T' Sq' W.heap.size hf hb tb) (pre ++ [x]) (PairC T' W.heap.size Cj (.slice va 0 vc) []) X .ret (X1.drewN nq)) := by
              intro nq
              have hn : ys.drop pre.length = [] := by
                have h := p1.2.2.1
                have hlen := congrArg List.length HL.out
                simp at hlen
                simp
                omega
              have tE : Tn Cj X1 (X1.drewN nq) := Tn.drewN (Tn.refl _ _) nq
              have he : pre.zip ys = xs.zip ys := zip_all ((List.prefix_append pre [x]).trans HPX.out) hn
              obtain ⟨g2, C2, g3, g1⟩ := pair_stop (J := J) (Jx := Jx) (L := xs.zip ys) (C' := Cj) (s' := pre ++ [x]) p1 HT.out.sub hRl' HT.out.stab tE (fun b hb' => .inl hb') (.inl (HSJ.out.1.2 _ _ _ _ _ (he ▸ p1.1) (Tn.drewN (Tn.refl (fun _ => False) _) nq) (fun _ _ h => h)))
              exact ⟨_, p2.trans g2 (fun b hb' h => (p3 b h).elim id (fun h => by omega)), fun b hb' => (g3 b hb').elim (p3 b) (fun h => .inr (Nat.le_trans p2.size h)), g1⟩
            have k5 : X1.cell? ⟨W.heap.size + 1 + 1, 0, none⟩ = some (.slice sa 0 sc) := p1.2.2.2.2.2.2.2.1.cell 0
            clear p1 p2 p3
            simp only [List.length_nil]
            gi_wp2_with fail
            refine region_round (by kernel_rfl) (by kernel_rfl) (by kernel_rfl) ?_
            repeat go_big_quiet_step (fail)
            refine wpQuiet_nil ?_
            intro _ hw'
            obtain ⟨nq, hw''⟩ := hw'
            subst hw''
            have HG := HE.out nq
            have HG2 : Hid (RPost (PairI J ys R' T' Sq' W.heap.size l hf hb tb) (PairX J Jx (xs.zip ys) T' Sq' W.heap.size hf hb tb) (pre ++ [x]) (PairC T' W.heap.size Cj (.slice va 0 vc) []) X .ret (X1.drewN nq)) := HG
            clear HG
            gi_wp2
            exact HG2.out
          | cons z zs =>
            subst hLL
            obtain ⟨g, o, c, hv, hz0, hzc, hgN, hgl, htl⟩ := RdAt.head p1.2.2.2.2.2.2.2.2.1
            simp only [List.length_cons, Value.slice.injEq] at hv
            obtain ⟨rfl, -, rfl⟩ := hv
            simp only [List.length_cons] at p1 p2 p3 ⊢
            have kz : X1.drew.cell? ⟨g, o, none⟩ = some (.int .i64 z) := hz0
            have hlen0 : ((zs.length : Int) + 1 == 0) = false := by simp; omega
            have HHD : Hid (∀ (a : Option Addr) (c' : Nat), zs = [] ∨ a = some ⟨g, o + 1, none⟩ ∧ zs.length ≤ c' → RdAt X1 (W.heap.size + 3) (.slice a zs.length c') zs) := htl
            have HT1 : Hid (Tn (PairC T' W.heap.size Cj (.slice va 0 vc) []) X X1 ∧ ∀ b, PairC T' W.heap.size Cj (.slice (some ⟨g, o, none⟩) (zs.length + 1) sc) (z :: zs) b → PairC T' W.heap.size Cj (.slice va 0 vc) [] b ∨ X.heap.size ≤ b) := ⟨p2, p3⟩
            have HW1 : Hid (PairW J ys R' T' Sq' W.heap.size l hf hb tb pre Cj (.slice (some ⟨g, o, none⟩) (zs.length + 1) sc) (z :: zs) (ys.drop (pre.length + (1 + pre.length / 16))) X1) := p1
            clear hz0 htl p1 p2 p3
            have tE : Tn (fun _ => False) X1 X1.drew := (Tn.refl _ _).drew
            have k3 : X1.drew.cell? ⟨W.heap.size, 0, none⟩ = some (.func (.yield l) #[] #[]) := HW1.out.2.2.2.2.2.1.cell 0
            have k5 : X1.drew.cell? ⟨W.heap.size + 1 + 1, 0, none⟩ = some (.slice (some ⟨g, o, none⟩) (zs.length + 1) sc) := HW1.out.2.2.2.2.2.2.2.1.cell 0
            have hX := HY.out (pre.zip ys) (x, z) Cj X1.drew (HZ.out.1 _ _ HW1.out.2.2.1) (HSJ.out.1.2 _ _ _ _ _ HW1.out.1 tE (fun _ _ h => h))
            unfold encP at hX
            obtain ⟨fn, tmps, assign, body, hy2, hR⟩ := hX
            simp only at hy2
            have HFIN : Hid (∀ (C' : Nat → Prop) Y a c', Tn Cj X1.drew Y → (∀ b, C' b → Cj b ∨ X1.drew.heap.size ≤ b) → J (pre.zip ys ++ [(x, z)]) C' Y → (zs = [] ∨ a = some ⟨g, o + 1, none⟩ ∧ zs.length ≤ c') → Hid (RPost (PairI J ys R' T' Sq' W.heap.size l hf hb tb) (PairX J Jx (xs.zip ys) T' Sq' W.heap.size hf hb tb) (pre ++ [x]) (PairC T' W.heap.size Cj (.slice va 0 vc) []) X .normal ((Y.setCell ⟨W.heap.size + 1, 0, none⟩ (.int .i64 ((pre.length : Int) + 1))).setCell ⟨W.heap.size + 1 + 1, 0, none⟩ (.slice a zs.length c')))) := by
              intro C' Y a c' tY hC' hj ha
              have tXY : Tn Cj X1 Y := (tE.mono (B := Cj) (fun _ _ h => h.elim)).trans tY (fun _ _ h => h)
              have hvb : ∀ b, Rb (.slice a zs.length c') zs b → Rb (.slice (some ⟨g, o, none⟩) (zs.length + 1) sc) (z :: zs) b := by
                rintro b ⟨hz, hb'⟩
                rcases ha with rfl | ⟨rfl, -⟩
                · exact absurd rfl hz
                · exact ⟨by simp, hb'⟩
              have hv : RdAt Y (W.heap.size + 3) (.slice a zs.length c') zs := (HHD.out a c' ha).tn tXY (fun b hb' => HW1.out.2.2.2.2.2.2.2.2.2 b (.inr (.inr (hvb b hb'))))
              obtain ⟨g1, g2, g3⟩ := pair_next HW1.out HSJ.out.1 hDl HT.out.sub hRl' l2 HT.out.stab tXY hC' hj hv hvb
              exact ⟨_, HT1.out.1.trans g2 (fun b hb' h => (HT1.out.2 b h).elim id (fun h => by omega)), fun b hb' => (g3 b hb').elim (HT1.out.2 b) (fun h => .inr (Nat.le_trans HT1.out.1.size h)), g1.i⟩
            have HEND : Hid (∀ (C' : Nat → Prop) Y, Tn Cj X1.drew Y → (∀ b, C' b → Cj b ∨ X1.drew.heap.size ≤ b) → Jx (pre.zip ys ++ [(x, z)]) C' Y → Hid (RPost (PairI J ys R' T' Sq' W.heap.size l hf hb tb) (PairX J Jx (xs.zip ys) T' Sq' W.heap.size hf hb tb) (pre ++ [x]) (PairC T' W.heap.size Cj (.slice va 0 vc) []) X .ret Y)) := by
              intro C' Y tY hC' hj
              have tXY : Tn Cj X1 Y := (tE.mono (B := Cj) (fun _ _ h => h.elim)).trans tY (fun _ _ h => h)
              obtain ⟨g2, C2, g3, g1⟩ := pair_stop (s' := pre ++ [x]) HW1.out HT.out.sub hRl' HT.out.stab tXY hC' (.inr ⟨_, HZ.out.1 _ _ HW1.out.2.2.1, hj⟩)
              exact ⟨_, HT1.out.1.trans g2 (fun b hb' h => (HT1.out.2 b h).elim id (fun h => by omega)), fun b hb' => (g3 b hb').elim (HT1.out.2 b) (fun h => .inr (Nat.le_trans HT1.out.1.size h)), g1⟩
            have HAT : Hid (∀ Y, Tn Cj X1.drew Y → IsC Y (W.heap.size + 1) #[.int .i64 (pre.length : Int)] ∧ IsC Y (W.heap.size + 1 + 1) #[.slice (some ⟨g, o, none⟩) (zs.length + 1) sc]) := by
              intro Y tY
              have tXY : Tn Cj X1 Y := (tE.mono (B := Cj) (fun _ _ h => h.elim)).trans tY (fun _ _ h => h)
              have h10 := HW1.out.2.2.2.2.2.2.2.2.2
              exact ⟨HW1.out.2.2.2.2.2.2.1.tn tXY (h10 _ (.inr (.inl (.inr (.inl rfl))))), HW1.out.2.2.2.2.2.2.2.1.tn tXY (h10 _ (.inr (.inl (.inr (.inr rfl)))))⟩
            obtain ⟨na, hna0, hsl⟩ := slice_tail g o zs.length sc hzc
            have hna : Hid (zs.length = 0 ∨ na = some ⟨g, o + 1, none⟩ ∧ zs.length ≤ sc - 1) := hna0
            clear hna0
            gi_wp2_with fail
            rename_i K hK0
            have hK : ∀ (bv : Bool) (C' : Nat → Prop) (Y : World), Hid (Tn Cj X1.drew Y ∧ (∀ b, C' b → Cj b ∨ X1.drew.heap.size ≤ b) ∧ (bv = true → J (pre.zip ys ++ [(x, z)]) C' Y) ∧ (bv = false → Jx (pre.zip ys ++ [(x, z)]) C' Y)) → K { tmps := #[.func (.yield l) #[] #[], .pointer (some ⟨sb, 0, none⟩), .pointer (some ⟨tb, 0, none⟩), .pointer (some ⟨W.heap.size, 0, none⟩), .pointer (some ⟨W.heap.size + 1, 0, none⟩), .pointer (some ⟨W.heap.size + 1 + 1, 0, none⟩), .int .i64 x, .func (.func gf) #[] lb, .bool false, .bool false, .func (.func hf) #[] hb, .bool false, .bool false, .func (.func gf) #[] lb, .int .i64 x, .slice va 0 vc, .int .i64 0, .bool true, .func (.func hf) #[] hb, .int .i64 (pre.length : Int), .int .i64 (pre.length : Int), .int .i64 (1 + (pre.length : Int) / 16), .slice (some ⟨g, o, none⟩) (zs.length + 1) sc, .slice (some ⟨g, o, none⟩) (zs.length + 1) sc, .int .i64 ((zs.length : Int) + 1), .bool false, .bool false, .func (.yield l) #[] #[], .int .i64 x, .slice (some ⟨g, o, none⟩) (zs.length + 1) sc, .pointer (some ⟨g, o, none⟩), .int .i64 z, .bool bv, .bool (!bv), .bool (!bv), undef, undef, undef, undef], defers := [] } Y := by
              intro bv C' Y HR3
              apply hK0
              cases bv with
              | true =>
                obtain ⟨i4, i5⟩ := HAT.out Y HR3.out.1
                have e4 : Y.cell? ⟨W.heap.size + 1, 0, none⟩ = some (.int .i64 (pre.length : Int)) := i4.cell 0
                have e5 : Y.cell? ⟨W.heap.size + 1 + 1, 0, none⟩ = some (.slice (some ⟨g, o, none⟩) (zs.length + 1) sc) := i5.cell 0
                have f4 : Y.frozen? ⟨W.heap.size + 1, 0, none⟩ = false := i4.frozen 0
                have f5 : Y.frozen? ⟨W.heap.size + 1 + 1, 0, none⟩ = false := i5.frozen 0
                have lt4 := i4.lt
                have lt5 := i5.lt
                have HG := fun a c' h => HFIN.out C' Y a c' HR3.out.1 HR3.out.2.1 (HR3.out.2.2.1 rfl) h
                have HGG : Hid (∀ a c', (zs = [] ∨ a = some ⟨g, o + 1, none⟩ ∧ zs.length ≤ c') → Hid (RPost (PairI J ys R' T' Sq' W.heap.size l hf hb tb) (PairX J Jx (xs.zip ys) T' Sq' W.heap.size hf hb tb) (pre ++ [x]) (PairC T' W.heap.size Cj (.slice va 0 vc) []) X .normal ((Y.setCell ⟨W.heap.size + 1, 0, none⟩ (.int .i64 ((pre.length : Int) + 1))).setCell ⟨W.heap.size + 1 + 1, 0, none⟩ (.slice a zs.length c')))) := HG
                clear i4 i5 HG hR hy2
                gi_wp2
                exact (HGG.out _ _ (hna.out.imp List.length_eq_zero_iff.1 id)).out
              | false =>
                have HG := HEND.out C' Y HR3.out.1 HR3.out.2.1 (HR3.out.2.2.2 rfl)
                clear hR hy2
                gi_wp2
                exact HG.out
            have tok1 : True := trivial
            gi_region_with_o (first
              | (have _t := tok1; refine ⟨rfl, RoundIn.mono (F := Fence.wide) hR ?_⟩; rintro e Y ⟨C', tY, hC', hJ2⟩; obtain ⟨bv, rfl, hJ3⟩ := yes_no hJ2; have HR3 : Hid (Tn Cj X1.drew Y ∧ (∀ b, C' b → Cj b ∨ X1.drew.heap.size ≤ b) ∧ (bv = true → J (pre.zip ys ++ [(x, z)]) C' Y) ∧ (bv = false → Jx (pre.zip ys ++ [(x, z)]) C' Y)) := ⟨tY, hC', hJ3⟩; clear tok1 _t hJ2 hJ3 tY hC' hR))
            all_goals exact hK _ _ _ HR3
        have tok0 : True := trivial
        have tok1 : True := trivial
        gi_region_with_o (first
          | (have _t := tok0; refine ⟨trivial, rfl, CallsIn.mono (F := Fence.wide) (callsIn_wide.2 hat) ?_⟩; rintro e X1 ⟨rfl, rfl⟩; clear tok0 _t hat)
          | (have _t := tok1; refine ⟨trivial, rfl, CallsIn.mono (F := Fence.wide) hst ?_⟩; rintro e Y ⟨sa, sc, rfl, o1, t1, g1⟩; obtain ⟨z1, z2, z3⟩ := HFZ.out Y t1; have HY2 : Hid (Y.ownsRow X.drew.heap.size 3 1 (.slice sa L.length sc) L.length (ivs L) ∧ Tn T' X.drew Y ∧ Sq' Y) := ⟨o1, t1, g1⟩; clear tok1 _t hst o1 t1 g1))
        all_goals exact hK _ _ _ HY2
      | cons z zs =>
        obtain ⟨g, o, c, rfl, hz0, hzc, hgN, hgl, htl⟩ := RdAt.head HW.out.2.2.2.2.2.2.2.2.1
        have c5 : X.cell? ⟨W.heap.size + 1 + 1, 0, none⟩ = some (.slice (some ⟨g, o, none⟩) (zs.length + 1) c) := HW.out.2.2.2.2.2.2.2.1.cell 0
        have kz : X.drew.cell? ⟨g, o, none⟩ = some (.int .i64 z) := hz0
        have hlen0 : ((zs.length : Int) + 1 == 0) = false := by simp; omega
        have HHD : Hid (∀ (a : Option Addr) (c' : Nat), zs = [] ∨ a = some ⟨g, o + 1, none⟩ ∧ zs.length ≤ c' → RdAt X (W.heap.size + 3) (.slice a zs.length c') zs) := htl
        have HT1 : Hid (Tn (PairC T' W.heap.size Cj (.slice (some ⟨g, o, none⟩) (zs.length + 1) c) (z :: zs)) X X ∧ ∀ b, PairC T' W.heap.size Cj (.slice (some ⟨g, o, none⟩) (zs.length + 1) c) (z :: zs) b → PairC T' W.heap.size Cj (.slice (some ⟨g, o, none⟩) (zs.length + 1) c) (z :: zs) b ∨ X.heap.size ≤ b) := ⟨Tn.refl _ _, fun _ h => .inl h⟩
        have HW1 := HW
        clear hz0 htl
        have tE : Tn (fun _ => False) X X.drew := (Tn.refl _ _).drew
        have k3 : X.drew.cell? ⟨W.heap.size, 0, none⟩ = some (.func (.yield l) #[] #[]) := HW1.out.2.2.2.2.2.1.cell 0
        have k5 : X.drew.cell? ⟨W.heap.size + 1 + 1, 0, none⟩ = some (.slice (some ⟨g, o, none⟩) (zs.length + 1) c) := HW1.out.2.2.2.2.2.2.2.1.cell 0
        have hX := HY.out (pre.zip ys) (x, z) Cj X.drew (HZ.out.1 _ _ HW1.out.2.2.1) (HSJ.out.1.2 _ _ _ _ _ HW1.out.1 tE (fun _ _ h => h))
        unfold encP at hX
        obtain ⟨fn, tmps, assign, body, hy2, hR⟩ := hX
        simp only at hy2
        have HFIN : Hid (∀ (C' : Nat → Prop) Y a c', Tn Cj X.drew Y → (∀ b, C' b → Cj b ∨ X.drew.heap.size ≤ b) → J (pre.zip ys ++ [(x, z)]) C' Y → (zs = [] ∨ a = some ⟨g, o + 1, none⟩ ∧ zs.length ≤ c') → Hid (RPost (PairI J ys R' T' Sq' W.heap.size l hf hb tb) (PairX J Jx (xs.zip ys) T' Sq' W.heap.size hf hb tb) (pre ++ [x]) (PairC T' W.heap.size Cj (.slice (some ⟨g, o, none⟩) (zs.length + 1) c) (z :: zs)) X .normal ((Y.setCell ⟨W.heap.size + 1, 0, none⟩ (.int .i64 ((pre.length : Int) + 1))).setCell ⟨W.heap.size + 1 + 1, 0, none⟩ (.slice a zs.length c')))) := by
          intro C' Y a c' tY hC' hj ha
          have tXY : Tn Cj X Y := (tE.mono (B := Cj) (fun _ _ h => h.elim)).trans tY (fun _ _ h => h)
          have hvb : ∀ b, Rb (.slice a zs.length c') zs b → Rb (.slice (some ⟨g, o, none⟩) (zs.length + 1) c) (z :: zs) b := by
            rintro b ⟨hz, hb'⟩
            rcases ha with rfl | ⟨rfl, -⟩
            · exact absurd rfl hz
            · exact ⟨by simp, hb'⟩
          have hv : RdAt Y (W.heap.size + 3) (.slice a zs.length c') zs := (HHD.out a c' ha).tn tXY (fun b hb' => HW1.out.2.2.2.2.2.2.2.2.2 b (.inr (.inr (hvb b hb'))))
          obtain ⟨g1, g2, g3⟩ := pair_next HW1.out HSJ.out.1 hDl HT.out.sub hRl' l2 HT.out.stab tXY hC' hj hv hvb
          exact ⟨_, HT1.out.1.trans g2 (fun b hb' h => (HT1.out.2 b h).elim id (fun h => by omega)), fun b hb' => (g3 b hb').elim (HT1.out.2 b) (fun h => .inr (Nat.le_trans HT1.out.1.size h)), g1.i⟩
        have HEND : Hid (∀ (C' : Nat → Prop) Y, Tn Cj X.drew Y → (∀ b, C' b → Cj b ∨ X.drew.heap.size ≤ b) → Jx (pre.zip ys ++ [(x, z)]) C' Y → Hid (RPost (PairI J ys R' T' Sq' W.heap.size l hf hb tb) (PairX J Jx (xs.zip ys) T' Sq' W.heap.size hf hb tb) (pre ++ [x]) (PairC T' W.heap.size Cj (.slice (some ⟨g, o, none⟩) (zs.length + 1) c) (z :: zs)) X .ret Y)) := by
          intro C' Y tY hC' hj
          have tXY : Tn Cj X Y := (tE.mono (B := Cj) (fun _ _ h => h.elim)).trans tY (fun _ _ h => h)
          obtain ⟨g2, C2, g3, g1⟩ := pair_stop (s' := pre ++ [x]) HW1.out HT.out.sub hRl' HT.out.stab tXY hC' (.inr ⟨_, HZ.out.1 _ _ HW1.out.2.2.1, hj⟩)
          exact ⟨_, HT1.out.1.trans g2 (fun b hb' h => (HT1.out.2 b h).elim id (fun h => by omega)), fun b hb' => (g3 b hb').elim (HT1.out.2 b) (fun h => .inr (Nat.le_trans HT1.out.1.size h)), g1⟩
        have HAT : Hid (∀ Y, Tn Cj X.drew Y → IsC Y (W.heap.size + 1) #[.int .i64 (pre.length : Int)] ∧ IsC Y (W.heap.size + 1 + 1) #[.slice (some ⟨g, o, none⟩) (zs.length + 1) c]) := by
          intro Y tY
          have tXY : Tn Cj X Y := (tE.mono (B := Cj) (fun _ _ h => h.elim)).trans tY (fun _ _ h => h)
          have h10 := HW1.out.2.2.2.2.2.2.2.2.2
          exact ⟨HW1.out.2.2.2.2.2.2.1.tn tXY (h10 _ (.inr (.inl (.inr (.inl rfl))))), HW1.out.2.2.2.2.2.2.2.1.tn tXY (h10 _ (.inr (.inl (.inr (.inr rfl)))))⟩
        obtain ⟨na, hna0, hsl⟩ := slice_tail g o zs.length c hzc
        have hna : Hid (zs.length = 0 ∨ na = some ⟨g, o + 1, none⟩ ∧ zs.length ≤ c - 1) := hna0
        clear hna0
        gi_wp2_with fail
        rename_i K hK0
        have hK : ∀ (bv : Bool) (C' : Nat → Prop) (Y : World), Hid (Tn Cj X.drew Y ∧ (∀ b, C' b → Cj b ∨ X.drew.heap.size ≤ b) ∧ (bv = true → J (pre.zip ys ++ [(x, z)]) C' Y) ∧ (bv = false → Jx (pre.zip ys ++ [(x, z)]) C' Y)) → K { tmps := #[.func (.yield l) #[] #[], .pointer (some ⟨sb, 0, none⟩), .pointer (some ⟨tb, 0, none⟩), .pointer (some ⟨W.heap.size, 0, none⟩), .pointer (some ⟨W.heap.size + 1, 0, none⟩), .pointer (some ⟨W.heap.size + 1 + 1, 0, none⟩), .int .i64 x, .func (.func gf) #[] lb, .bool false, .bool false, .func (.func hf) #[] hb, .bool false, .bool false, .func (.func gf) #[] lb, .int .i64 x, .slice (some ⟨g, o, none⟩) (zs.length + 1) c, .int .i64 ((zs.length : Int) + 1), .bool false, undef, undef, undef, undef, undef, .slice (some ⟨g, o, none⟩) (zs.length + 1) c, .int .i64 ((zs.length : Int) + 1), .bool false, .bool false, .func (.yield l) #[] #[], .int .i64 x, .slice (some ⟨g, o, none⟩) (zs.length + 1) c, .pointer (some ⟨g, o, none⟩), .int .i64 z, .bool bv, .bool (!bv), .bool (!bv), undef, undef, undef, undef], defers := [] } Y := by
          intro bv C' Y HR3
          apply hK0
          cases bv with
          | true =>
            obtain ⟨i4, i5⟩ := HAT.out Y HR3.out.1
            have e4 : Y.cell? ⟨W.heap.size + 1, 0, none⟩ = some (.int .i64 (pre.length : Int)) := i4.cell 0
            have e5 : Y.cell? ⟨W.heap.size + 1 + 1, 0, none⟩ = some (.slice (some ⟨g, o, none⟩) (zs.length + 1) c) := i5.cell 0
            have f4 : Y.frozen? ⟨W.heap.size + 1, 0, none⟩ = false := i4.frozen 0
            have f5 : Y.frozen? ⟨W.heap.size + 1 + 1, 0, none⟩ = false := i5.frozen 0
            have lt4 := i4.lt
            have lt5 := i5.lt
            have HG := fun a c' h => HFIN.out C' Y a c' HR3.out.1 HR3.out.2.1 (HR3.out.2.2.1 rfl) h
            have HGG : Hid (∀ a c', (zs = [] ∨ a = some ⟨g, o + 1, none⟩ ∧ zs.length ≤ c') → Hid (RPost (PairI J ys R' T' Sq' W.heap.size l hf hb tb) (PairX J Jx (xs.zip ys) T' Sq' W.heap.size hf hb tb) (pre ++ [x]) (PairC T' W.heap.size Cj (.slice (some ⟨g, o, none⟩) (zs.length + 1) c) (z :: zs)) X .normal ((Y.setCell ⟨W.heap.size + 1, 0, none⟩ (.int .i64 ((pre.length : Int) + 1))).setCell ⟨W.heap.size + 1 + 1, 0, none⟩ (.slice a zs.length c')))) := HG
            clear i4 i5 HG hR hy2
            gi_wp2
            exact (HGG.out _ _ (hna.out.imp List.length_eq_zero_iff.1 id)).out
          | false =>
            have HG := HEND.out C' Y HR3.out.1 HR3.out.2.1 (HR3.out.2.2.2 rfl)
            clear hR hy2
            gi_wp2
            exact HG.out
        have tok1 : True := trivial
        gi_region_with_o (first
          | (have _t := tok1; refine ⟨rfl, RoundIn.mono (F := Fence.wide) hR ?_⟩; rintro e Y ⟨C', tY, hC', hJ2⟩; obtain ⟨bv, rfl, hJ3⟩ := yes_no hJ2; have HR3 : Hid (Tn Cj X.drew Y ∧ (∀ b, C' b → Cj b ∨ X.drew.heap.size ≤ b) ∧ (bv = true → J (pre.zip ys ++ [(x, z)]) C' Y) ∧ (bv = false → Jx (pre.zip ys ++ [(x, z)]) C' Y)) := ⟨tY, hC', hJ3⟩; clear tok1 _t hJ2 hJ3 tY hC' hR))
        all_goals exact hK _ _ _ HR3
    case done =>
      rintro C X ⟨Cj, v, zs, rest, rfl, q1, q2, q3, q4, q5, q6, q7, q8, q9, q10⟩ tX hqX hC hDd nD
      obtain ⟨g1, g2, g3⟩ := pair_done (R := R) (R' := R') (T := T) t0 (tX.mono (fun k _ h => by
        rcases h with h | h | h | h | h
        · exact .inl h
        · exact .inr (.inl h)
        · exact .inr (.inr (.inl h))
        · exact .inr (.inr (.inr h))
        · exact absurd rfl h.1)) hz HSJ.out.1 hDl q1 (fun b hb => (hC b (.inl hb)).imp (fun h => by
        rcases h with h | h | h | h
        · exact .inl h
        · exact .inr (.inl h)
        · exact .inr (.inr h)
        · exact absurd rfl h.1) id) (fun b hb => q10 b (.inl (.inl (HT.out.sub b hb)))) (fun b hb => q10 b (.inr (.inl hb))) (fun h => nD (.inl h)) (.deferred none)
      have HG : Hid (Tn (fun b => (T b ∨ T' b) ∨ C0 b) W (X.putObj W0.heap.size (.deferred none)) ∧ (∀ b, Cj b → C0 b ∨ W.heap.size ≤ b) ∧ J (xs.zip ys) Cj (X.putObj W0.heap.size (.deferred none))) := ⟨g1, g2, g3⟩
      have HQ : Hid (Sq (X.putObj W0.heap.size (.deferred none)) ∧ Sq' (X.putObj W0.heap.size (.deferred none))) := ⟨HS.out.stab _ _ _ hqX (Tn.put _ _ _) (fun b hb (e : b = W0.heap.size) => by have := hRl b hb; omega), HT.out.stab _ _ _ q4 (Tn.put _ _ _) (fun b hb (e : b = W0.heap.size) => by have := hRl' b hb; omega)⟩
      clear q1 q2 q3 q4 q5 q6 q7 q8 q9 q10 tX hqX hC nD g1 g2 g3
      gi_wp2
      refine ⟨by simp, .inl ⟨_, _, rfl, run_takeDeferred hDd, ?_⟩⟩
      have hk : ∀ b, b = sb ∨ b = tb → ¬ ((T b ∨ T' b) ∨ C0 b) := by
        rintro b (rfl | rfl) ((h | h) | h)
        · exact HR.out.1.1 (HS.out.sub _ h)
        · exact HR.out.1.2.2.1 (HT.out.sub _ h)
        · exact HD.out _ h (.inr (.inr (.inl rfl)))
        · exact HR.out.1.2.1 (HS.out.sub _ h)
        · exact HR.out.1.2.2.2 (HT.out.sub _ h)
        · exact HD.out _ h (.inr (.inr (.inr rfl)))
      exact ⟨_, results_none rfl _ _ _, ⟨_, rfl⟩, HG.out.1, ⟨HQ.out.1, HQ.out.2, HSB.out.1.tn HG.out.1 (hk _ (.inl rfl)), HSB.out.2.1.tn HG.out.1 (hk _ (.inr rfl))⟩, Cj, HG.out.2.1, .inl HG.out.2.2⟩
    case stop =>
      rintro c pre C X hpre ⟨rfl, Cj, rfl, h1, h4, h5, h6, h7⟩ tX hqX hC hDd nD
      have hj : ∀ (J' : Inv (Int × Int)) s', Stb D J' → J' s' Cj X → Tn (fun b => (T b ∨ T' b) ∨ C0 b) W (X.putObj W0.heap.size (.deferred none)) ∧ (∀ b, Cj b → C0 b ∨ W.heap.size ≤ b) ∧ J' s' Cj (X.putObj W0.heap.size (.deferred none)) := fun J' s' hJ' hj' =>
        pair_done (R := R) (R' := R') (T := T) t0 (tX.mono (fun k _ h => by
        rcases h with h | h | h | h | h
        · exact .inl h
        · exact .inr (.inl h)
        · exact .inr (.inr (.inl h))
        · exact .inr (.inr (.inr h))
        · exact absurd rfl h.1)) hz hJ' hDl hj' (fun b hb => (hC b (.inl hb)).imp (fun h => by
        rcases h with h | h | h | h
        · exact .inl h
        · exact .inr (.inl h)
        · exact .inr (.inr h)
        · exact absurd rfl h.1) id) (fun b hb => h6 b (.inl hb)) (fun b hb => h6 b (.inr hb)) (fun h => nD (.inl h)) (.deferred none)
      have HG : Hid (Tn (fun b => (T b ∨ T' b) ∨ C0 b) W (X.putObj W0.heap.size (.deferred none)) ∧ (∀ b, Cj b → C0 b ∨ W.heap.size ≤ b) ∧ (J (xs.zip ys) Cj (X.putObj W0.heap.size (.deferred none)) ∨ ∃ pre, pre <+: xs.zip ys ∧ Jx pre Cj (X.putObj W0.heap.size (.deferred none)))) := by
        rcases h1 with h1 | ⟨p', hp, h1⟩
        · obtain ⟨g1, g2, g3⟩ := hj J _ HSJ.out.1 h1
          exact ⟨g1, g2, .inl g3⟩
        · obtain ⟨g1, g2, g3⟩ := hj Jx _ HSJ.out.2 h1
          exact ⟨g1, g2, .inr ⟨p', hp, g3⟩⟩
      have HQ : Hid (Sq (X.putObj W0.heap.size (.deferred none)) ∧ Sq' (X.putObj W0.heap.size (.deferred none))) := ⟨HS.out.stab _ _ _ hqX (Tn.put _ _ _) (fun b hb (e : b = W0.heap.size) => by have := hRl b hb; omega), HT.out.stab _ _ _ h4 (Tn.put _ _ _) (fun b hb (e : b = W0.heap.size) => by have := hRl' b hb; omega)⟩
      clear h1 h4 h5 h6 h7 tX hqX hC nD hj
      gi_wp2
      refine ⟨by simp, .inl ⟨_, _, rfl, run_takeDeferred hDd, ?_⟩⟩
      have hk : ∀ b, b = sb ∨ b = tb → ¬ ((T b ∨ T' b) ∨ C0 b) := by
        rintro b (rfl | rfl) ((h | h) | h)
        · exact HR.out.1.1 (HS.out.sub _ h)
        · exact HR.out.1.2.2.1 (HT.out.sub _ h)
        · exact HD.out _ h (.inr (.inr (.inl rfl)))
        · exact HR.out.1.2.1 (HS.out.sub _ h)
        · exact HR.out.1.2.2.2 (HT.out.sub _ h)
        · exact HD.out _ h (.inr (.inr (.inr rfl)))
      exact ⟨_, results_none rfl _ _ _, ⟨_, rfl⟩, HG.out.1, ⟨HQ.out.1, HQ.out.2, HSB.out.1.tn HG.out.1 (hk _ (.inl rfl)), HSB.out.2.1.tn HG.out.1 (hk _ (.inr rfl))⟩, Cj, HG.out.2.1, HG.out.2.2⟩

end Go.Proofs.Ytjkgjckkglfokaa
