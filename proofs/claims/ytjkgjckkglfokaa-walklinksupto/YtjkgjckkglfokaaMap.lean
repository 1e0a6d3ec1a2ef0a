/- Map. -/
import Derived.Test.YtjkgjckkglfokaaHo
namespace Go.Proofs.Ytjkgjckkglfokaa
open Go.RowKit Go.Shelf
set_option linter.unusedVariables false
attribute [local go_sem] Oper.semAt_some

set_option maxRecDepth 100000 in
set_option maxHeartbeats 2000000 in
theorem map_seq {gf : Nat} {lb : Array Value} {xs : List Int} {R T : Nat → Prop} {Sq : World → Prop} (hs : IsSeq Try.prog gf lb encI xs R T Sq) (eg : ∀ args w, (callFunc gf args).run Try.prog w = .ok (.enter gf args) w) {sb mb mf : Nat} {ml : Array Value} {f : Int → Int} {Rm : Nat → Prop} {Sm : World → Prop} (hm : IsFn Try.prog mf ml (fun x => .int .i64 (f x)) Rm Sm)
    (h1 : ¬ R sb) (h2 : ¬ R mb) (h3 : ∀ b, Rm b → ¬ R b) :
    IsSeq Try.prog 65 #[.pointer (some ⟨sb, 0, none⟩), .pointer (some ⟨mb, 0, none⟩)] encI (xs.map f) (fun b => R b ∨ b = sb ∨ b = mb ∨ Rm b) T (fun W => Sq W ∧ IsC W sb #[.func (.func gf) #[] lb] ∧ IsC W mb #[.func (.func mf) #[] ml] ∧ Sm W) := by
  refine ⟨fun b hb => .inl (hs.sub b hb), fun W h b hb => ?_, fun W W' A h ht hA => ⟨hs.stab _ _ _ h.1 ht (fun b hb => hA b (.inl hb)), h.2.1.tn ht (hA _ (.inr (.inl rfl))), h.2.2.1.tn ht (hA _ (.inr (.inr (.inl rfl)))), hm.stab _ _ _ h.2.2.2 ht (fun b hb => hA b (.inr (.inr (.inr hb))))⟩, ?_⟩
  · rcases hb with hb | rfl | rfl | hb
    · exact hs.lt _ h.1 b hb
    · exact h.2.1.lt
    · exact h.2.2.1.lt
    · exact hm.lt _ h.2.2.2 b hb
  · rintro W l J Jx C0 D ⟨hq, hsb, hmb, hsm⟩ stJ stJx hY h0 hd hdT
    have a1 : W.cell? ⟨sb, 0, none⟩ = some (.func (.func gf) #[] lb) := hsb.cell 0
    have a2 : W.cell? ⟨mb, 0, none⟩ = some (.func (.func mf) #[] ml) := hmb.cell 0
    have l1 := hsb.lt
    have l2 := hmb.lt
    obtain ⟨W0, hW0⟩ : ∃ W0, W.alloc (.cells #[.func (.yield l) #[] #[]] 63) = W0 := ⟨_, rfl⟩
    have HW0 : Hid (W.alloc (.cells #[.func (.yield l) #[] #[]] 63) = W0) := hW0
    clear hW0
    have hq1 : ∀ w, (binOp .eql 50 (.func (.func gf) #[] lb) .nilFunc).run Try.prog w = .ok (.bool false) w := fun _ => by kernel_rfl
    have hq2 : ∀ w, (binOp .eql 68 (.func (.func mf) #[] ml) .nilFunc).run Try.prog w = .ok (.bool false) w := fun _ => by kernel_rfl
    have HY : Hid (RoundOk Try.prog l encI (List.map f xs) J Jx) := hY
    have HD : Hid (∀ b, C0 b → ¬ (R b ∨ b = sb ∨ b = mb ∨ Rm b)) := hd
    have HSJ : Hid (Stb D J ∧ Stb D Jx) := ⟨stJ, stJx⟩
    have HH0 : Hid (J [] C0 W) := h0
    have HSB : Hid (IsC W sb #[.func (.func gf) #[] lb] ∧ IsC W mb #[.func (.func mf) #[] ml] ∧ Sm W ∧ Sq W) := ⟨hsb, hmb, hsm, hq⟩
    have HS : Hid (IsSeq Try.prog gf lb encI xs R T Sq) := hs
    have HM : Hid (IsFn Try.prog mf ml (fun x => .int .i64 (f x)) Rm Sm) := hm
    have HR : Hid (¬ R sb ∧ ¬ R mb ∧ ∀ b, Rm b → ¬ R b) := ⟨h1, h2, h3⟩
    have HDT : Hid (∀ b, D b → ¬ T b) := hdT
    clear hdT hY hd stJ stJx h0 hsb hmb hsm hq hs hm h1 h2 h3
    refine callsIn_of_wp_marks Try.func65 rfl trivial ?_ rfl
    simp only [Try.ntmps65, List.size_toArray, List.length_cons, List.length_nil, Nat.reduceAdd, Nat.reduceSub, Array.replicate_succ, Array.replicate_zero, List.push_toArray, List.append_toArray, List.nil_append, List.cons_append]
    gi_wp2_with fail
    rw [HW0.out]
    have hb0 : Below W.heap.size W W0 := by rw [← HW0.out]; exact (Below.refl _ _).alloc (Nat.le_refl _) _
    have t0 : Tn (fun _ => False) W W0 := Tn.of_below hb0 (Nat.le_refl _)
    have hy0 : IsC W0 W.heap.size #[.func (.yield l) #[] #[]] := by rw [← HW0.out]; exact isC_new _ _ _
    have hs0 : W.heap.size < W0.heap.size := hy0.lt
    have hC0l : ∀ b, C0 b → b < W.heap.size := fun b hb => HSJ.out.1.1 _ _ _ HH0.out b (.inl hb)
    have hDl : ∀ b, D b → b < W.heap.size := fun b hb => HSJ.out.1.1 _ _ _ HH0.out b (.inr hb)
    have hRl : ∀ b, R b → b < W.heap.size := HS.out.lt _ HSB.out.2.2.2
    have hRml : ∀ b, Rm b → b < W.heap.size := HM.out.lt _ HSB.out.2.2.1
    have hml : ∀ b, (b = mb ∨ Rm b) → b < W.heap.size := fun b hb => hb.elim (fun e => e ▸ l2) (hRml b)
    obtain ⟨H, hH⟩ : ∃ H : Nat → Prop, H = fun b => b = W.heap.size ∨ b = mb ∨ Rm b := ⟨_, rfl⟩
    obtain ⟨St, hSt⟩ : ∃ St : World → Prop, St = fun X => (∀ b, (b = mb ∨ Rm b) → X.heap[b]? = W.heap[b]?) ∧ IsC X W.heap.size #[.func (.yield l) #[] #[]] ∧ Sm X := ⟨_, rfl⟩
    obtain ⟨I, hI⟩ : ∃ I : Inv Int, I = HoldI J (fun s => s.map f) H (fun _ X => St X) := ⟨_, rfl⟩
    obtain ⟨Ix, hIx⟩ : ∃ Ix : Code → Inv Int, Ix = fun c => HoldI Jx (fun s => s.map f) H (fun _ X => c = .ret ∧ St X) := ⟨_, rfl⟩
    have stS : ∀ A X Y, St X → Tn A X Y → (∀ b, H b → ¬ A b) → St Y := by
      intro A X Y h ht hA
      rw [hSt] at h ⊢
      rw [hH] at hA
      exact ⟨fun b hb => ht.same (h.1 b hb) (hml b hb) (hA b (.inr hb)), h.2.1.tn ht (hA _ (.inl rfl)), HM.out.stab _ _ _ h.2.2 ht (fun b hb => hA b (.inr (.inr hb)))⟩
    have stI : Stb D I := by rw [hI]; exact HoldI.stb HSJ.out.1 (fun s A X Y h ht hA => stS A X Y h ht hA)
    have stIx : ∀ c, Stb D (Ix c) := fun c => by rw [hIx]; exact HoldI.stb HSJ.out.2 (fun s A X Y h ht hA => ⟨h.1, stS A X Y h.2 ht hA⟩)
    have hSt0 : St W0 := by
      rw [hSt]
      exact ⟨fun b hb => t0.block b (hml b hb) (fun h => h), hy0, HM.out.stab _ _ _ HSB.out.2.2.1 t0 (fun _ _ h => h)⟩
    have hHC : ∀ b, H b → ¬ C0 b ∧ b < W0.heap.size ∧ ¬ R b ∧ (W.heap.size ≤ b ∨ (b = mb ∨ Rm b)) := by
      intro b hb
      rw [hH] at hb
      rcases hb with rfl | rfl | hb
      · exact ⟨fun h => by have := hC0l _ h; omega, hs0, fun h => by have := hRl _ h; omega, .inl (Nat.le_refl _)⟩
      · exact ⟨fun h => HD.out _ h (.inr (.inr (.inl rfl))), by omega, HR.out.2.1, .inr (.inl rfl)⟩
      · exact ⟨fun h => HD.out _ h (.inr (.inr (.inr hb))), by have := hRml b hb; omega, HR.out.2.2 b hb, .inr (.inr hb)⟩
    have hW : Sq W0 := HS.out.stab _ _ _ HSB.out.2.2.2 t0 (fun _ _ h => h)
    have h0 : I [] (fun b => C0 b ∨ H b) W0 := by
      rw [hI]
      exact ⟨C0, rfl, HSJ.out.1.2 _ _ _ _ _ HH0.out t0 (fun _ _ h => h), fun b hb => (hHC b hb).1, fun b hb => (hHC b hb).2.1, hSt0⟩
    refine range_it (gf := gf) (lb := lb) rfl eg (encs := encI) (fun _ => rfl) HS.out hW I Ix D stI stIx (fun b => C0 b ∨ H b) h0 (fun b hb hr => hb.elim (fun h => HD.out b h (.inl hr)) (fun h => (hHC b h).2.2.1 hr)) HDT.out
      (fun x a' => a' = { tmps := #[.func (.yield l) #[] #[], .pointer (some ⟨sb, 0, none⟩), .pointer (some ⟨mb, 0, none⟩), .pointer (some ⟨W.heap.size, 0, none⟩), .int .i64 x, .func (.func gf) #[] lb, .bool false, .bool false, .func (.func mf) #[] ml, .bool false, .bool false, .func (.func gf) #[] lb, .int .i64 x, undef, undef, undef, undef, undef, undef], defers := [] })
      ?assign ?body ?done ?stop
    case assign =>
      intro l2 x X Kc hK
      unfold encI
      gi_wp2
      rfl
    case body =>
      rintro l3 pre x a' C X hpre hIX rfl
      obtain ⟨Cj, rfl, hJ, n1, n2, hsx⟩ := (by rw [hI] at hIX; exact hIX : HoldI J (fun s => s.map f) H (fun _ X => St X) pre C X)
      have hsx' := hsx
      rw [hSt] at hsx
      have k1 : X.drew.cell? ⟨mb, 0, none⟩ = some (.func (.func mf) #[] ml) := (HSB.out.2.1.of_block (hsx.1 mb (.inl rfl))).cell 0
      have k2 : X.drew.cell? ⟨W.heap.size, 0, none⟩ = some (.func (.yield l) #[] #[]) := hsx.2.1.cell 0
      have hxl := hsx.2.1.lt
      have tD : Tn (fun _ => False) X X.drew := (Tn.refl _ _).drew
      have hcall := HM.out.call X.drew x (HM.out.stab _ _ _ hsx.2.2 tD (fun _ _ h => h))
      have em := HM.out.ent
      have hn1 : ∀ b w, (Op.unary UnOp.not (.bool b)).run Try.prog w = .ok (.bool (!b)) w := fun b _ => by cases b <;> kernel_rfl
      have HP : Hid (pre ++ [x] <+: xs) := hpre
      have HJ : Hid (J (pre.map f) Cj X.drew) := HSJ.out.1.2 _ _ _ _ _ hJ tD (fun _ _ h => h)
      have HN : Hid ((∀ b, H b → ¬ Cj b) ∧ ∀ b, H b → b < X.heap.size) := ⟨n1, n2⟩
      have HQ : Hid (St X.drew) := stS _ _ _ hsx' tD (fun _ _ h => h)
      have HI : Hid (I = HoldI J (fun s => s.map f) H (fun _ X => St X) ∧ Ix = fun c => HoldI Jx (fun s => s.map f) H (fun _ X => c = .ret ∧ St X)) := ⟨hI, hIx⟩
      have HSS : Hid (∀ A X Y, St X → Tn A X Y → (∀ b, H b → ¬ A b) → St Y) := stS
      have HF : Hid ((pre ++ [x]).map f = pre.map f ++ [f x]) := by show _ = _; simp
      have HPF : Hid (pre.map f ++ [f x] <+: xs.map f) := by have := List.IsPrefix.map f hpre; rw [List.map_append] at this; exact this
      clear hpre hJ n1 n2 hsx hsx' hIX hI hIx hSt hH stS stI stIx hSt0 hHC h0 hW
      have hmo : Try.prog.follows Departure.mixedOrders = true := by kernel_rfl
      have tok0 : True := trivial
      have tok1 : True := trivial
      gi_wp2_with fail
      gi_region_with_o (first
        | (have _t := tok0; refine ⟨trivial, rfl, CallsIn.mono (F := Fence.wide) (callsIn_wide.2 hcall) ?_⟩; rintro e X1 ⟨rfl, hb1⟩; have k3 : X1.cell? ⟨W.heap.size, 0, none⟩ = some (.func (.yield l) #[] #[]) := (hb1.cell (p := ⟨W.heap.size, 0, none⟩) hxl).trans k2; have HT1 : Hid (Tn (fun _ => False) X.drew X1) := Tn.of_below hb1 (Nat.le_refl _); have HS1 : Hid (St X1) := HSS.out _ _ _ HQ.out HT1.out (fun _ _ h => h); have HJ1 : Hid (J (pre.map f) Cj X1) := HSJ.out.1.2 _ _ _ _ _ HJ.out HT1.out (fun _ _ h => h); have hl1 : W.heap.size < X1.heap.size := Nat.lt_of_lt_of_le hxl HT1.out.size; have hX := HY.out (pre.map f) (f x) Cj X1 HPF.out HJ1.out; unfold encI at hX; obtain ⟨fn, tmps, assign, body, hy2, hR⟩ := hX; clear tok0 _t hb1 hcall k1)
        | (have _t := tok1; refine ⟨rfl, RoundIn.mono (F := Fence.wide) hR ?_⟩; rintro e Y ⟨C', tY, hC', hJ2⟩; obtain ⟨bv, rfl, hJ3⟩ := yes_no hJ2; have HR3 : Hid (Tn Cj X1 Y ∧ (∀ b, C' b → Cj b ∨ X1.heap.size ≤ b) ∧ (bv = true → J (pre.map f ++ [f x]) C' Y) ∧ (bv = false → Jx (pre.map f ++ [f x]) C' Y)) := ⟨tY, hC', hJ3⟩; clear tok1 _t hJ2 hJ3 tY hC' hR))
      all_goals (
        have HN1 : Hid (∀ b, H b → b < X1.heap.size) := fun b hb => Nat.lt_of_lt_of_le (HN.out.2 b hb) HT1.out.size
        cases bv with
        | true =>
          have HG : Hid (RPost I Ix (pre ++ [x]) (fun b => Cj b ∨ H b) X .normal Y) := by
            obtain ⟨C2, g1, g2, g3⟩ := HoldI.round (J := J) (φ := fun s : List Int => s.map f) (s := pre ++ [x]) (J' := J) (St := fun _ X => St X) HN.out.1 HN1.out HR3.out.1 HR3.out.2.1 (by rw [HF.out]; exact HR3.out.2.2.1 rfl) (HSS.out _ _ _ HS1.out HR3.out.1 HN.out.1)
            exact ⟨C2, ((Tn.refl _ X).drew.trans HT1.out (fun _ _ h => h.elim)).trans g1 (fun _ _ h => h), fun b hb => (g2 b hb).imp id (Nat.le_trans HT1.out.size), by rw [HI.out.1]; exact g3⟩
          gi_wp2
          exact HG.out
        | false =>
          have HG : Hid (RPost I Ix (pre ++ [x]) (fun b => Cj b ∨ H b) X .ret Y) := by
            obtain ⟨C2, g1, g2, g3⟩ := HoldI.round (J := J) (φ := fun s : List Int => s.map f) (s := pre ++ [x]) (J' := Jx) (St := fun _ X => Code.ret = Code.ret ∧ St X) HN.out.1 HN1.out HR3.out.1 HR3.out.2.1 (by rw [HF.out]; exact HR3.out.2.2.2 rfl) ⟨rfl, HSS.out _ _ _ HS1.out HR3.out.1 HN.out.1⟩
            exact ⟨C2, ((Tn.refl _ X).drew.trans HT1.out (fun _ _ h => h.elim)).trans g1 (fun _ _ h => h), fun b hb => (g2 b hb).imp id (Nat.le_trans HT1.out.size), by rw [HI.out.2]; exact g3⟩
          gi_wp2
          exact HG.out)
    case done =>
      intro C X hIX tX hqX hC hD nD
      rw [hI] at hIX
      have hE := fun o => hold_done HS.out HSB.out.2.2.2 t0 (H0 := fun b => b = mb ∨ Rm b) (fun b hb => (hHC b hb).2.2.2) hDl HSJ.out.1 hIX (by obtain ⟨_, _, _, _, _, q⟩ := hIX; rw [hSt] at q; exact q.1) tX hqX hC nD o
      have hsm : Sm X := by obtain ⟨_, _, _, _, _, q⟩ := hIX; rw [hSt] at q; exact q.2.2
      clear hI hIx hSt hH
      gi_wp2
      refine ⟨by simp, .inl ⟨_, _, rfl, run_takeDeferred hD, ?_⟩⟩
      obtain ⟨g1, g2, Cj, g3, g4⟩ := hE (.deferred none)
      exact ⟨_, results_none rfl _ _ _, ⟨_, rfl⟩, g1, ⟨g2, HSB.out.1.caught g1 HS.out.sub HR.out.1 (fun h => HD.out _ h (.inr (.inl rfl))), HSB.out.2.1.caught g1 HS.out.sub HR.out.2.1 (fun h => HD.out _ h (.inr (.inr (.inl rfl)))), HM.out.stab _ _ _ hsm (Tn.put _ _ _) (fun b hb e => by have := hRml b hb; omega)⟩, Cj, g3, .inl g4⟩
    case stop =>
      intro c pre C X hpre hIX tX hqX hC hD nD
      rw [hIx] at hIX
      have hc : c = .ret ∧ St X := by obtain ⟨_, _, _, _, _, q⟩ := hIX; exact q
      obtain ⟨rfl, hst⟩ := hc
      rw [hSt] at hst
      have hE := fun o => hold_done HS.out HSB.out.2.2.2 t0 (H0 := fun b => b = mb ∨ Rm b) (fun b hb => (hHC b hb).2.2.2) hDl HSJ.out.2 hIX hst.1 tX hqX hC nD o
      have hsm : Sm X := hst.2.2
      clear hI hIx hSt hH hst
      gi_wp2
      refine ⟨by simp, .inl ⟨_, _, rfl, run_takeDeferred hD, ?_⟩⟩
      obtain ⟨g1, g2, Cj, g3, g4⟩ := hE (.deferred none)
      exact ⟨_, results_none rfl _ _ _, ⟨_, rfl⟩, g1, ⟨g2, HSB.out.1.caught g1 HS.out.sub HR.out.1 (fun h => HD.out _ h (.inr (.inl rfl))), HSB.out.2.1.caught g1 HS.out.sub HR.out.2.1 (fun h => HD.out _ h (.inr (.inr (.inl rfl)))), HM.out.stab _ _ _ hsm (Tn.put _ _ _) (fun b hb e => by have := hRml b hb; omega)⟩, Cj, g3, .inr ⟨_, List.IsPrefix.map f hpre, g4⟩⟩

end Go.Proofs.Ytjkgjckkglfokaa
