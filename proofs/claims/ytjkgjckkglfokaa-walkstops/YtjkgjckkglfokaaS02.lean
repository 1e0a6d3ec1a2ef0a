/- Map, of an iterator that may never end. -/
import Derived.Test.YtjkgjckkglfokaaS01
import Derived.Maps.OwnIn
namespace Go.Proofs.Ytjkgjckkglfokaa
open Go.RowKit Go.Shelf
set_option linter.unusedVariables false
set_option linter.unusedSimpArgs false
attribute [local go_sem] Oper.semAt_some

set_option maxRecDepth 100000 in
set_option maxHeartbeats 2000000 in
theorem map_seqG {gf : Nat} {lb : Array Value} {xs : List Int} {R T : Nat → Prop} {Sq Sq' : World → Prop} {fin : Prop} (hs : IsSeqG fin Try.prog gf lb encI xs R T Sq Sq') (eg : ∀ args w, (callFunc gf args).run Try.prog w = .ok (.enter gf args) w) {sb mb mf : Nat} {ml : Array Value} {f : Int → Int} {Rm : Nat → Prop} {Sm : World → Prop} (hm : IsFn Try.prog mf ml (fun x => .int .i64 (f x)) Rm Sm)
    (h1 : ¬ R sb) (h2 : ¬ R mb) (h3 : ∀ b, Rm b → ¬ R b) :
    IsSeqG fin Try.prog 65 #[.pointer (some ⟨sb, 0, none⟩), .pointer (some ⟨mb, 0, none⟩)] encI (xs.map f) (fun b => R b ∨ b = sb ∨ b = mb ∨ Rm b) T (fun W => Sq W ∧ IsC W sb #[.func (.func gf) #[] lb] ∧ IsC W mb #[.func (.func mf) #[] ml] ∧ Sm W) (fun W => Sq' W ∧ IsC W sb #[.func (.func gf) #[] lb] ∧ IsC W mb #[.func (.func mf) #[] ml] ∧ Sm W) := by
  refine ⟨fun b hb => .inl (hs.sub b hb), fun W h b hb => ?_, fun W W' A h ht hA => ⟨hs.stab _ _ _ h.1 ht (fun b hb => hA b (.inl hb)), h.2.1.tn ht (hA _ (.inr (.inl rfl))), h.2.2.1.tn ht (hA _ (.inr (.inr (.inl rfl)))), hm.stab _ _ _ h.2.2.2 ht (fun b hb => hA b (.inr (.inr (.inr hb))))⟩, fun W W' A h ht hA => ⟨hs.stab' _ _ _ h.1 ht (fun b hb => hA b (.inl hb)), h.2.1.tn ht (hA _ (.inr (.inl rfl))), h.2.2.1.tn ht (hA _ (.inr (.inr (.inl rfl)))), hm.stab _ _ _ h.2.2.2 ht (fun b hb => hA b (.inr (.inr (.inr hb))))⟩, ?_⟩
  · rcases hb with hb | rfl | rfl | hb
    · exact hs.lt _ h.1 b hb
    · exact h.2.1.lt
    · exact h.2.2.1.lt
    · exact hm.lt _ h.2.2.2 b hb
  · rintro W l J Jx C0 D ⟨hq, hsb, hmb, hsm⟩ stJ stJx hY h0 hd hdT hfin
    have a1 : W.cell? ⟨sb, 0, none⟩ = some (.func (.func gf) #[] lb) := hsb.cell 0
    have a2 : W.cell? ⟨mb, 0, none⟩ = some (.func (.func mf) #[] ml) := hmb.cell 0
    have l1 := hsb.lt
    have l2 := hmb.lt
    obtain ⟨W0, hW0⟩ : ∃ W0, W.alloc (.cells #[.func (.yield l) #[] #[]] 63) = W0 := ⟨_, rfl⟩
    have HW0 : Hid (W.alloc (.cells #[.func (.yield l) #[] #[]] 63) = W0) := hW0
    clear hW0
    have hq1 : ∀ w, (binOp .eql 50 (.func (.func gf) #[] lb) .nilFunc).run Try.prog w = .ok (.bool false) w := fun _ => by kernel_rfl
    have hq2 : ∀ w, (binOp .eql 68 (.func (.func mf) #[] ml) .nilFunc).run Try.prog w = .ok (.bool false) w := fun _ => by kernel_rfl
    have HY : Hid (RoundOk Try.prog l encI (List.map f xs) J Jx) := hY
    have HD : Hid (∀ b, C0 b → ¬ (R b ∨ b = sb ∨ b = mb ∨ Rm b)) := hd
    have HSJ : Hid (Stb D J ∧ Stb D Jx) := ⟨stJ, stJx⟩
    have HH0 : Hid (J [] C0 W) := h0
    have HSB : Hid (IsC W sb #[.func (.func gf) #[] lb] ∧ IsC W mb #[.func (.func mf) #[] ml] ∧ Sm W ∧ Sq W) := ⟨hsb, hmb, hsm, hq⟩
    have HS : Hid (IsSeqG fin Try.prog gf lb encI xs R T Sq Sq') := hs
    have HM : Hid (IsFn Try.prog mf ml (fun x => .int .i64 (f x)) Rm Sm) := hm
    have HR : Hid (¬ R sb ∧ ¬ R mb ∧ ∀ b, Rm b → ¬ R b) := ⟨h1, h2, h3⟩
    have HDT : Hid (∀ b, D b → ¬ T b) := hdT
    clear hdT hY hd stJ stJx h0 hsb hmb hsm hq hs hm h1 h2 h3
    refine callsIn_of_wp_marks Try.func65 rfl trivial ?_ rfl
    simp only [Try.ntmps65, List.size_toArray, List.length_cons, List.length_nil, Nat.reduceAdd, Nat.reduceSub, Array.replicate_succ, Array.replicate_zero, List.push_toArray, List.append_toArray, List.nil_append, List.cons_append]
    gi_wp2_with fail
    rw [HW0.out]
    have hb0 : Below W.heap.size W W0 := by rw [← HW0.out]; exact (Below.refl _ _).alloc (Nat.le_refl _) _
    have t0 : Tn (fun _ => False) W W0 := Tn.of_below hb0 (Nat.le_refl _)
    have hy0 : IsC W0 W.heap.size #[.func (.yield l) #[] #[]] := by rw [← HW0.out]; exact isC_new _ _ _
    have hs0 : W.heap.size < W0.heap.size := hy0.lt
    have hC0l : ∀ b, C0 b → b < W.heap.size := fun b hb => HSJ.out.1.1 _ _ _ HH0.out b (.inl hb)
    have hDl : ∀ b, D b → b < W.heap.size := fun b hb => HSJ.out.1.1 _ _ _ HH0.out b (.inr hb)
    have hRl : ∀ b, R b → b < W.heap.size := HS.out.lt _ HSB.out.2.2.2
    have hRml : ∀ b, Rm b → b < W.heap.size := HM.out.lt _ HSB.out.2.2.1
    have hml : ∀ b, (b = mb ∨ Rm b) → b < W.heap.size := fun b hb => hb.elim (fun e => e ▸ l2) (hRml b)
    obtain ⟨H, hH⟩ : ∃ H : Nat → Prop, H = fun b => b = W.heap.size ∨ b = mb ∨ Rm b := ⟨_, rfl⟩
    obtain ⟨St, hSt⟩ : ∃ St : World → Prop, St = fun X => (∀ b, (b = mb ∨ Rm b) → X.heap[b]? = W.heap[b]?) ∧ IsC X W.heap.size #[.func (.yield l) #[] #[]] ∧ Sm X := ⟨_, rfl⟩
    obtain ⟨I, hI⟩ : ∃ I : Inv Int, I = HoldI J (fun s => s.map f) H (fun _ X => St X) := ⟨_, rfl⟩
    obtain ⟨Ix, hIx⟩ : ∃ Ix : Code → Inv Int, Ix = fun c => HoldI Jx (fun s => s.map f) H (fun _ X => c = .ret ∧ St X) := ⟨_, rfl⟩
    have stS : ∀ A X Y, St X → Tn A X Y → (∀ b, H b → ¬ A b) → St Y := by
      intro A X Y h ht hA
      rw [hSt] at h ⊢
      rw [hH] at hA
      exact ⟨fun b hb => ht.same (h.1 b hb) (hml b hb) (hA b (.inr hb)), h.2.1.tn ht (hA _ (.inl rfl)), HM.out.stab _ _ _ h.2.2 ht (fun b hb => hA b (.inr (.inr hb)))⟩
    have stI : Stb D I := by rw [hI]; exact HoldI.stb HSJ.out.1 (fun s A X Y h ht hA => stS A X Y h ht hA)
    have stIx : ∀ c, Stb D (Ix c) := fun c => by rw [hIx]; exact HoldI.stb HSJ.out.2 (fun s A X Y h ht hA => ⟨h.1, stS A X Y h.2 ht hA⟩)
    have hSt0 : St W0 := by
      rw [hSt]
      exact ⟨fun b hb => t0.block b (hml b hb) (fun h => h), hy0, HM.out.stab _ _ _ HSB.out.2.2.1 t0 (fun _ _ h => h)⟩
    have hHC : ∀ b, H b → ¬ C0 b ∧ b < W0.heap.size ∧ ¬ R b ∧ (W.heap.size ≤ b ∨ (b = mb ∨ Rm b)) := by
      intro b hb
      rw [hH] at hb
      rcases hb with rfl | rfl | hb
      · exact ⟨fun h => by have := hC0l _ h; omega, hs0, fun h => by have := hRl _ h; omega, .inl (Nat.le_refl _)⟩
      · exact ⟨fun h => HD.out _ h (.inr (.inr (.inl rfl))), by omega, HR.out.2.1, .inr (.inl rfl)⟩
      · exact ⟨fun h => HD.out _ h (.inr (.inr (.inr hb))), by have := hRml b hb; omega, HR.out.2.2 b hb, .inr (.inr hb)⟩
    have hW : Sq W0 := HS.out.stab _ _ _ HSB.out.2.2.2 t0 (fun _ _ h => h)
    have h0 : I [] (fun b => C0 b ∨ H b) W0 := by
      rw [hI]
      exact ⟨C0, rfl, HSJ.out.1.2 _ _ _ _ _ HH0.out t0 (fun _ _ h => h), fun b hb => (hHC b hb).1, fun b hb => (hHC b hb).2.1, hSt0⟩
    refine range_itG (gf := gf) (lb := lb) rfl eg (encs := encI) (fun _ => rfl) HS.out hW I Ix D (hfin.imp id (fun h C X hi => by rw [hI] at hi; obtain ⟨Cj, -, h1, -⟩ := hi; exact h _ _ h1)) stI stIx (fun b => C0 b ∨ H b) h0 (fun b hb hr => hb.elim (fun h => HD.out b h (.inl hr)) (fun h => (hHC b h).2.2.1 hr)) HDT.out
      (fun x a' => a' = { tmps := #[.func (.yield l) #[] #[], .pointer (some ⟨sb, 0, none⟩), .pointer (some ⟨mb, 0, none⟩), .pointer (some ⟨W.heap.size, 0, none⟩), .int .i64 x, .func (.func gf) #[] lb, .bool false, .bool false, .func (.func mf) #[] ml, .bool false, .bool false, .func (.func gf) #[] lb, .int .i64 x, undef, undef, undef, undef, undef, undef], defers := [] })
      ?assign ?body ?done ?stop
    case assign =>
      intro l2 x X Kc hK
      unfold encI
      gi_wp2
      rfl
    case body =>
      rintro l3 pre x a' C X hpre hIX rfl
      obtain ⟨Cj, rfl, hJ, n1, n2, hsx⟩ := (by rw [hI] at hIX; exact hIX : HoldI J (fun s => s.map f) H (fun _ X => St X) pre C X)
      have hsx' := hsx
      rw [hSt] at hsx
      have k1 : X.drew.cell? ⟨mb, 0, none⟩ = some (.func (.func mf) #[] ml) := (HSB.out.2.1.of_block (hsx.1 mb (.inl rfl))).cell 0
      have k2 : X.drew.cell? ⟨W.heap.size, 0, none⟩ = some (.func (.yield l) #[] #[]) := hsx.2.1.cell 0
      have hxl := hsx.2.1.lt
      have tD : Tn (fun _ => False) X X.drew := (Tn.refl _ _).drew
      have hcall := HM.out.call X.drew x (HM.out.stab _ _ _ hsx.2.2 tD (fun _ _ h => h))
      have em := HM.out.ent
      have hn1 : ∀ b w, (Op.unary UnOp.not (.bool b)).run Try.prog w = .ok (.bool (!b)) w := fun b _ => by cases b <;> kernel_rfl
      have HP : Hid (pre ++ [x] <+: xs) := hpre
      have HJ : Hid (J (pre.map f) Cj X.drew) := HSJ.out.1.2 _ _ _ _ _ hJ tD (fun _ _ h => h)
      have HN : Hid ((∀ b, H b → ¬ Cj b) ∧ ∀ b, H b → b < X.heap.size) := ⟨n1, n2⟩
      have HQ : Hid (St X.drew) := stS _ _ _ hsx' tD (fun _ _ h => h)
      have HI : Hid (I = HoldI J (fun s => s.map f) H (fun _ X => St X) ∧ Ix = fun c => HoldI Jx (fun s => s.map f) H (fun _ X => c = .ret ∧ St X)) := ⟨hI, hIx⟩
      have HSS : Hid (∀ A X Y, St X → Tn A X Y → (∀ b, H b → ¬ A b) → St Y) := stS
      have HF : Hid ((pre ++ [x]).map f = pre.map f ++ [f x]) := by show _ = _; simp
      have HPF : Hid (pre.map f ++ [f x] <+: xs.map f) := by have := List.IsPrefix.map f hpre; rw [List.map_append] at this; exact this
      clear hpre hJ n1 n2 hsx hsx' hIX hI hIx hSt hH stS stI stIx hSt0 hHC h0 hW
      have hmo : Try.prog.follows Departure.mixedOrders = true := by kernel_rfl
      have tok0 : True := trivial
      have tok1 : True := trivial
      gi_wp2_with fail
      gi_region_with_o (first
        | (have _t := tok0; refine ⟨trivial, rfl, CallsIn.mono (F := Fence.wide) (callsIn_wide.2 hcall) ?_⟩; rintro e X1 ⟨rfl, hb1⟩; have k3 : X1.cell? ⟨W.heap.size, 0, none⟩ = some (.func (.yield l) #[] #[]) := (hb1.cell (p := ⟨W.heap.size, 0, none⟩) hxl).trans k2; have HT1 : Hid (Tn (fun _ => False) X.drew X1) := Tn.of_below hb1 (Nat.le_refl _); have HS1 : Hid (St X1) := HSS.out _ _ _ HQ.out HT1.out (fun _ _ h => h); have HJ1 : Hid (J (pre.map f) Cj X1) := HSJ.out.1.2 _ _ _ _ _ HJ.out HT1.out (fun _ _ h => h); have hl1 : W.heap.size < X1.heap.size := Nat.lt_of_lt_of_le hxl HT1.out.size; have hX := HY.out (pre.map f) (f x) Cj X1 HPF.out HJ1.out; unfold encI at hX; obtain ⟨fn, tmps, assign, body, hy2, hR⟩ := hX; clear tok0 _t hb1 hcall k1)
        | (have _t := tok1; refine ⟨rfl, RoundIn.mono (F := Fence.wide) hR ?_⟩; rintro e Y ⟨C', tY, hC', hJ2⟩; obtain ⟨bv, rfl, hJ3⟩ := yes_no hJ2; have HR3 : Hid (Tn Cj X1 Y ∧ (∀ b, C' b → Cj b ∨ X1.heap.size ≤ b) ∧ (bv = true → J (pre.map f ++ [f x]) C' Y) ∧ (bv = false → Jx (pre.map f ++ [f x]) C' Y)) := ⟨tY, hC', hJ3⟩; clear tok1 _t hJ2 hJ3 tY hC' hR))
      all_goals (
        have HN1 : Hid (∀ b, H b → b < X1.heap.size) := fun b hb => Nat.lt_of_lt_of_le (HN.out.2 b hb) HT1.out.size
        cases bv with
        | true =>
          have HG : Hid (RPost I Ix (pre ++ [x]) (fun b => Cj b ∨ H b) X .normal Y) := by
            obtain ⟨C2, g1, g2, g3⟩ := HoldI.round (J := J) (φ := fun s : List Int => s.map f) (s := pre ++ [x]) (J' := J) (St := fun _ X => St X) HN.out.1 HN1.out HR3.out.1 HR3.out.2.1 (by rw [HF.out]; exact HR3.out.2.2.1 rfl) (HSS.out _ _ _ HS1.out HR3.out.1 HN.out.1)
            exact ⟨C2, ((Tn.refl _ X).drew.trans HT1.out (fun _ _ h => h.elim)).trans g1 (fun _ _ h => h), fun b hb => (g2 b hb).imp id (Nat.le_trans HT1.out.size), by rw [HI.out.1]; exact g3⟩
          gi_wp2
          exact HG.out
        | false =>
          have HG : Hid (RPost I Ix (pre ++ [x]) (fun b => Cj b ∨ H b) X .ret Y) := by
            obtain ⟨C2, g1, g2, g3⟩ := HoldI.round (J := J) (φ := fun s : List Int => s.map f) (s := pre ++ [x]) (J' := Jx) (St := fun _ X => Code.ret = Code.ret ∧ St X) HN.out.1 HN1.out HR3.out.1 HR3.out.2.1 (by rw [HF.out]; exact HR3.out.2.2.2 rfl) ⟨rfl, HSS.out _ _ _ HS1.out HR3.out.1 HN.out.1⟩
            exact ⟨C2, ((Tn.refl _ X).drew.trans HT1.out (fun _ _ h => h.elim)).trans g1 (fun _ _ h => h), fun b hb => (g2 b hb).imp id (Nat.le_trans HT1.out.size), by rw [HI.out.2]; exact g3⟩
          gi_wp2
          exact HG.out)
    case done =>
      intro C X hIX tX hqX hC hD nD
      rw [hI] at hIX
      have hE := fun o => hold_doneG HS.out HSB.out.2.2.2 t0 (H0 := fun b => b = mb ∨ Rm b) (fun b hb => (hHC b hb).2.2.2) hDl HSJ.out.1 hIX (by obtain ⟨_, _, _, _, _, q⟩ := hIX; rw [hSt] at q; exact q.1) tX hqX hC nD o
      have hsm : Sm X := by obtain ⟨_, _, _, _, _, q⟩ := hIX; rw [hSt] at q; exact q.2.2
      clear hI hIx hSt hH
      gi_wp2
      refine ⟨by simp, .inl ⟨_, _, rfl, run_takeDeferred hD, ?_⟩⟩
      obtain ⟨g1, g2, Cj, g3, g4⟩ := hE (.deferred none)
      exact ⟨_, results_none rfl _ _ _, ⟨_, rfl⟩, g1, ⟨g2, HSB.out.1.caught g1 HS.out.sub HR.out.1 (fun h => HD.out _ h (.inr (.inl rfl))), HSB.out.2.1.caught g1 HS.out.sub HR.out.2.1 (fun h => HD.out _ h (.inr (.inr (.inl rfl)))), HM.out.stab _ _ _ hsm (Tn.put _ _ _) (fun b hb e => by have := hRml b hb; omega)⟩, Cj, g3, .inl g4⟩
    case stop =>
      intro c pre C X hpre hIX tX hqX hC hD nD
      rw [hIx] at hIX
      have hc : c = .ret ∧ St X := by obtain ⟨_, _, _, _, _, q⟩ := hIX; exact q
      obtain ⟨rfl, hst⟩ := hc
      rw [hSt] at hst
      have hE := fun o => hold_doneG HS.out HSB.out.2.2.2 t0 (H0 := fun b => b = mb ∨ Rm b) (fun b hb => (hHC b hb).2.2.2) hDl HSJ.out.2 hIX hst.1 tX hqX hC nD o
      have hsm : Sm X := hst.2.2
      clear hI hIx hSt hH hst
      gi_wp2
      refine ⟨by simp, .inl ⟨_, _, rfl, run_takeDeferred hD, ?_⟩⟩
      obtain ⟨g1, g2, Cj, g3, g4⟩ := hE (.deferred none)
      exact ⟨_, results_none rfl _ _ _, ⟨_, rfl⟩, g1, ⟨g2, HSB.out.1.caught g1 HS.out.sub HR.out.1 (fun h => HD.out _ h (.inr (.inl rfl))), HSB.out.2.1.caught g1 HS.out.sub HR.out.2.1 (fun h => HD.out _ h (.inr (.inr (.inl rfl)))), HM.out.stab _ _ _ hsm (Tn.put _ _ _) (fun b hb e => by have := hRml b hb; omega)⟩, Cj, g3, .inr ⟨_, List.IsPrefix.map f hpre, g4⟩⟩

end Go.Proofs.Ytjkgjckkglfokaa

/- Most. -/
namespace Go.Proofs.Ytjkgjckkglfokaa
open Go.RowKit Go.Shelf
set_option linter.unusedVariables false
set_option linter.unusedSimpArgs false
attribute [local go_sem] Oper.semAt_some

/-- What was told, and stopped: all of it, or as many as were wanted. -/
def Both2 {α : Type} (J Jx : Inv α) (L : List α) : Inv α := fun t C X => Jx t C X ∨ (J t C X ∧ t = L)
theorem Both2.stb {α : Type} {J Jx : Inv α} {L : List α} {D : Nat → Prop} (h1 : Stb D J) (h2 : Stb D Jx) : Stb D (Both2 J Jx L) := by
  refine ⟨fun s C X h b hb => ?_, fun s C A X Y h ht hA => ?_⟩
  · rcases h with h | h
    · exact h2.1 _ _ _ h b hb
    · exact h1.1 _ _ _ h.1 b hb
  · rcases h with h | h
    · exact .inl (h2.2 _ _ _ _ _ h ht hA)
    · exact .inr ⟨h1.2 _ _ _ _ _ h.1 ht hA, h.2⟩

theorem pre_len {α : Type} {pre xs : List α} {x : α} {n : Nat} (h : pre ++ [x] <+: xs) (hn : pre.length < n) : pre ++ [x] <+: xs.take n ∧ (pre.length + 1 = n → pre ++ [x] = xs.take n) := by
  obtain ⟨t, ht⟩ := h
  subst ht
  have e : ((pre ++ [x]) ++ t).take n = (pre ++ [x]) ++ t.take (n - (pre.length + 1)) := by
    rw [List.take_append, List.take_of_length_le (by simp; omega)]
    simp
  rw [e]
  refine ⟨List.prefix_append _ _, fun h => ?_⟩
  rw [show n - (pre.length + 1) = 0 by omega]
  simp

end Go.Proofs.Ytjkgjckkglfokaa

/- Most, of an iterator that may never end. -/
namespace Go.Proofs.Ytjkgjckkglfokaa
open Go.RowKit Go.Shelf
set_option linter.unusedVariables false
set_option linter.unusedSimpArgs false
attribute [local go_sem] Oper.semAt_some

set_option maxRecDepth 100000 in
set_option maxHeartbeats 2000000 in
theorem most_seqG {gf : Nat} {lb : Array Value} {xs : List Int} {R T : Nat → Prop} {Sq Sq' : World → Prop} {fin : Prop} (hs : IsSeqG fin Try.prog gf lb encI xs R T Sq Sq') (eg : ∀ args w, (callFunc gf args).run Try.prog w = .ok (.enter gf args) w) {sb mb n : Nat} (hn : 1 ≤ n) (hn2 : n < 9223372036854775808)
    (hfn : fin ∨ n ≤ xs.length) (h1 : ¬ R sb) (h2 : ¬ R mb) :
    IsSeqG True Try.prog 64 #[.pointer (some ⟨sb, 0, none⟩), .pointer (some ⟨mb, 0, none⟩)] encI (xs.take n) (fun b => R b ∨ b = sb ∨ b = mb) T (fun W => Sq W ∧ IsC W sb #[.func (.func gf) #[] lb] ∧ IsC W mb #[.int .i64 (n : Int)]) (fun W => Sq' W ∧ IsC W sb #[.func (.func gf) #[] lb] ∧ IsC W mb #[.int .i64 (n : Int)]) := by
  refine ⟨fun b hb => .inl (hs.sub b hb), fun W h b hb => ?_, fun W W' A h ht hA => ⟨hs.stab _ _ _ h.1 ht (fun b hb => hA b (.inl hb)), h.2.1.tn ht (hA _ (.inr (.inl rfl))), h.2.2.tn ht (hA _ (.inr (.inr rfl)))⟩, fun W W' A h ht hA => ⟨hs.stab' _ _ _ h.1 ht (fun b hb => hA b (.inl hb)), h.2.1.tn ht (hA _ (.inr (.inl rfl))), h.2.2.tn ht (hA _ (.inr (.inr rfl)))⟩, ?_⟩
  · rcases hb with hb | rfl | rfl
    · exact hs.lt _ h.1 b hb
    · exact h.2.1.lt
    · exact h.2.2.lt
  · rintro W l J Jx C0 D ⟨hq, hsb, hmb⟩ stJ stJx hY h0 hd hdT _
    have a1 : W.cell? ⟨sb, 0, none⟩ = some (.func (.func gf) #[] lb) := hsb.cell 0
    have a2 : W.cell? ⟨mb, 0, none⟩ = some (.int .i64 (n : Int)) := hmb.cell 0
    have l1 := hsb.lt
    have l2 := hmb.lt
    obtain ⟨W0, hW0⟩ : ∃ W0, (W.alloc (.cells #[.func (.yield l) #[] #[]] 63)).alloc (.cells #[.int .i64 (n : Int)] 3) = W0 := ⟨_, rfl⟩
    have HW0 : Hid ((W.alloc (.cells #[.func (.yield l) #[] #[]] 63)).alloc (.cells #[.int .i64 (n : Int)] 3) = W0) := hW0
    clear hW0
    have hq1 : ∀ w, (binOp .eql 50 (.func (.func gf) #[] lb) .nilFunc).run Try.prog w = .ok (.bool false) w := fun _ => by kernel_rfl
    have HY : Hid (RoundOk Try.prog l encI (xs.take n) J Jx) := hY
    have HD : Hid (∀ b, C0 b → ¬ (R b ∨ b = sb ∨ b = mb)) := hd
    have HSJ : Hid (Stb D J ∧ Stb D Jx) := ⟨stJ, stJx⟩
    have HH0 : Hid (J [] C0 W) := h0
    have HSB : Hid (IsC W sb #[.func (.func gf) #[] lb] ∧ IsC W mb #[.int .i64 (n : Int)] ∧ Sq W) := ⟨hsb, hmb, hq⟩
    have HS : Hid (IsSeqG fin Try.prog gf lb encI xs R T Sq Sq') := hs
    have HR : Hid (¬ R sb ∧ ¬ R mb) := ⟨h1, h2⟩
    have hnb : ¬ ((n : Int) < 1) := by omega
    have l1s : sb < W.heap.size + 1 := by omega
    have HDT : Hid (∀ b, D b → ¬ T b) := hdT
    clear hdT hY hd stJ stJx h0 hsb hmb hq hs h1 h2
    refine callsIn_of_wp_marks Try.func64 rfl trivial ?_ rfl
    simp only [Try.ntmps64, List.size_toArray, List.length_cons, List.length_nil, Nat.reduceAdd, Nat.reduceSub, Array.replicate_succ, Array.replicate_zero, List.push_toArray, List.append_toArray, List.nil_append, List.cons_append]
    gi_wp2_with fail
    rw [HW0.out]
    have hb0 : Below W.heap.size W W0 := by rw [← HW0.out]; exact ((Below.refl _ _).alloc (Nat.le_refl _) _).alloc (by simp) _
    have t0 : Tn (fun _ => False) W W0 := Tn.of_below hb0 (Nat.le_refl _)
    have hy0 : IsC W0 W.heap.size #[.func (.yield l) #[] #[]] ∧ IsC W0 (W.heap.size + 1) #[.int .i64 (n : Int)] := by
      rw [← HW0.out]
      refine ⟨(isC_new W _ _).tn ((Tn.refl (fun _ => False) _).alloc _) (fun h => h), ?_⟩
      have := isC_new (W.alloc (.cells #[.func (.yield l) #[] #[]] 63)) #[.int .i64 (n : Int)] 3
      simpa using this
    have hs0 : W.heap.size + 1 < W0.heap.size := hy0.2.lt
    have hC0l : ∀ b, C0 b → b < W.heap.size := fun b hb => HSJ.out.1.1 _ _ _ HH0.out b (.inl hb)
    have hDl : ∀ b, D b → b < W.heap.size := fun b hb => HSJ.out.1.1 _ _ _ HH0.out b (.inr hb)
    have hRl : ∀ b, R b → b < W.heap.size := HS.out.lt _ HSB.out.2.2
    obtain ⟨H, hH⟩ : ∃ H : Nat → Prop, H = fun b => b = W.heap.size ∨ b = W.heap.size + 1 := ⟨_, rfl⟩
    obtain ⟨St, hSt⟩ : ∃ St : List Int → World → Prop, St = fun s X => IsC X W.heap.size #[.func (.yield l) #[] #[]] ∧ s.length < n ∧ IsC X (W.heap.size + 1) #[.int .i64 ((n - s.length : Nat) : Int)] := ⟨_, rfl⟩
    obtain ⟨I, hI⟩ : ∃ I : Inv Int, I = HoldI J (fun s => s) H St := ⟨_, rfl⟩
    obtain ⟨Ix, hIx⟩ : ∃ Ix : Code → Inv Int, Ix = fun c => HoldI (Both2 J Jx (xs.take n)) (fun s => s) H (fun s X => c = .ret ∧ s <+: xs.take n) := ⟨_, rfl⟩
    have stS : ∀ s A X Y, St s X → Tn A X Y → (∀ b, H b → ¬ A b) → St s Y := by
      intro s A X Y h ht hA
      rw [hSt] at h ⊢
      rw [hH] at hA
      exact ⟨h.1.tn ht (hA _ (.inl rfl)), h.2.1, h.2.2.tn ht (hA _ (.inr rfl))⟩
    have stI : Stb D I := by rw [hI]; exact HoldI.stb HSJ.out.1 stS
    have stIx : ∀ c, Stb D (Ix c) := fun c => by rw [hIx]; exact HoldI.stb (Both2.stb HSJ.out.1 HSJ.out.2) (fun s A X Y h ht hA => h)
    have hHC : ∀ b, H b → ¬ C0 b ∧ b < W0.heap.size ∧ ¬ R b ∧ (W.heap.size ≤ b ∨ False) := by
      intro b hb
      rw [hH] at hb
      have : W.heap.size ≤ b ∧ b < W0.heap.size := by rcases hb with rfl | rfl <;> omega
      exact ⟨fun h => by have := hC0l _ h; omega, this.2, fun h => by have := hRl _ h; omega, .inl this.1⟩
    have hW : Sq W0 := HS.out.stab _ _ _ HSB.out.2.2 t0 (fun _ _ h => h)
    have h0 : I [] (fun b => C0 b ∨ H b) W0 := by
      rw [hI]
      exact ⟨C0, rfl, HSJ.out.1.2 _ _ _ _ _ HH0.out t0 (fun _ _ h => h), fun b hb => (hHC b hb).1, fun b hb => (hHC b hb).2.1, by rw [hSt]; exact ⟨hy0.1, by show 0 < n; omega, hy0.2⟩⟩
    refine range_itG (gf := gf) (lb := lb) rfl eg (encs := encI) (fun _ => rfl) HS.out hW I Ix D (hfn.imp id (fun h C X hi => by rw [hI] at hi; obtain ⟨Cj, -, -, -, -, q⟩ := hi; rw [hSt] at q; have := q.2.1; omega)) stI stIx (fun b => C0 b ∨ H b) h0 (fun b hb hr => hb.elim (fun h => HD.out b h (.inl hr)) (fun h => (hHC b h).2.2.1 hr)) HDT.out
      (fun x a' => a' = { tmps := #[.func (.yield l) #[] #[], .pointer (some ⟨sb, 0, none⟩), .pointer (some ⟨mb, 0, none⟩), .pointer (some ⟨W.heap.size, 0, none⟩), .pointer (some ⟨W.heap.size + 1, 0, none⟩), .int .i64 x, .func (.func gf) #[] lb, .bool false, .bool false, .int .i64 (n : Int), .bool false, .bool false, .int .i64 (n : Int), .func (.func gf) #[] lb, .int .i64 x, undef, undef, undef, undef, undef, undef, undef, undef, undef, undef], defers := [] })
      ?assign ?body ?done ?stop
    case assign =>
      intro l2 x X Kc hK
      unfold encI
      gi_wp2
      rfl
    case body =>
      rintro l3 pre x a' C X hpre hIX rfl
      obtain ⟨Cj, rfl, hJ, n1, n2, hsx⟩ := (by rw [hI] at hIX; exact hIX : HoldI J (fun s => s) H St pre C X)
      rw [hSt] at hsx
      obtain ⟨g1, g2, g3⟩ := hsx
      obtain ⟨p1, p2⟩ := pre_len hpre g2
      obtain ⟨lf, hlf⟩ : ∃ lf : Nat, lf + 1 = n - pre.length := ⟨n - pre.length - 1, by omega⟩
      have k0 : X.cell? ⟨W.heap.size + 1, 0, none⟩ = some (.int .i64 ((lf : Int) + 1)) := by
        have := g3.cell 0
        rw [← hlf] at this
        exact this
      have f0 : X.frozen? ⟨W.heap.size + 1, 0, none⟩ = false := g3.frozen 0
      have k2 : X.cell? ⟨W.heap.size, 0, none⟩ = some (.func (.yield l) #[] #[]) := g1.cell 0
      obtain ⟨X1, hX1⟩ : ∃ X1, X.setCell ⟨W.heap.size + 1, 0, none⟩ (.int .i64 (lf : Int)) = X1 := ⟨_, rfl⟩
      have t1 : Tn H X X1 := by rw [← hX1, hH]; exact (Tn.refl _ _).set (.inl (.inr rfl)) _
      have c1 : IsC X1 W.heap.size #[.func (.yield l) #[] #[]] := by
        rw [← hX1]
        exact g1.of_block (Below.heap_setCell _ _ _ _ (by simp))
      have c2 : IsC X1 (W.heap.size + 1) #[.int .i64 (lf : Int)] := by
        obtain ⟨t, ht⟩ := g3
        refine ⟨t, ?_⟩
        rw [← hX1]
        simp [World.setCell, Array.getElem?_modify, ht]
      have hJ1 : J pre Cj X1 := HSJ.out.1.2 _ _ _ _ _ hJ t1 (fun b hb h => hb.elim (n1 b h) (fun hb => by have := hDl b hb; rw [hH] at h; omega))
      have hX := HY.out pre x Cj X1 p1 hJ1
      unfold encI at hX
      obtain ⟨fn, tmps, assign, body, hy2, hR⟩ := hX
      have HX1 : Hid (X.setCell ⟨W.heap.size + 1, 0, none⟩ (.int .i64 (lf : Int)) = X1) := hX1
      have lY : W.heap.size + 1 < X1.heap.size := c2.lt
      have hn1 : ∀ b w, (Op.unary UnOp.not (.bool b)).run Try.prog w = .ok (.bool (!b)) w := fun b _ => by cases b <;> kernel_rfl
      have hlfb : (lf : Int) < 9223372036854775807 := by omega
      have HN : Hid ((∀ b, H b → ¬ Cj b) ∧ (∀ b, H b → b < X.heap.size) ∧ H = fun b => b = W.heap.size ∨ b = W.heap.size + 1) := ⟨n1, n2, hH⟩
      have HI : Hid (I = HoldI J (fun s => s) H St ∧ (Ix = fun c => HoldI (Both2 J Jx (xs.take n)) (fun s => s) H (fun s X => c = .ret ∧ s <+: xs.take n)) ∧ St = fun s X => IsC X W.heap.size #[.func (.yield l) #[] #[]] ∧ s.length < n ∧ IsC X (W.heap.size + 1) #[.int .i64 ((n - s.length : Nat) : Int)]) := ⟨hI, hIx, hSt⟩
      have HC : Hid (IsC X1 W.heap.size #[.func (.yield l) #[] #[]] ∧ IsC X1 (W.heap.size + 1) #[.int .i64 (lf : Int)] ∧ Tn H X X1) := ⟨c1, c2, t1⟩
      have HL : Hid (lf + 1 = n - pre.length ∧ pre.length < n ∧ pre ++ [x] <+: xs.take n ∧ (pre.length + 1 = n → pre ++ [x] = xs.take n)) := ⟨hlf, g2, p1, p2⟩
      clear hJ hJ1 n1 n2 g1 g2 g3 p1 p2 hlf hX1 t1 c1 c2 hIX hI hIx hSt hH stS stI stIx hHC h0 hW
      rw [← HX1.out] at hy2
      gi_wp2_with fail
      rw [HX1.out]
      refine ⟨rfl, RoundIn.mono (F := Fence.wide) hR ?_⟩
      rintro e Y ⟨C', tY, hC', hJ2⟩
      obtain ⟨bv, rfl, hJ3⟩ := yes_no hJ2
      have d1 : IsC Y W.heap.size #[.func (.yield l) #[] #[]] := HC.out.1.tn tY (HN.out.1 _ (by rw [HN.out.2.2]; exact .inl rfl))
      have d2 : IsC Y (W.heap.size + 1) #[.int .i64 (lf : Int)] := HC.out.2.1.tn tY (HN.out.1 _ (by rw [HN.out.2.2]; exact .inr rfl))
      have e1 : Y.cell? ⟨W.heap.size + 1, 0, none⟩ = some (.int .i64 (lf : Int)) := d2.cell 0
      have HN1 : Hid (∀ b, H b → b < X1.heap.size) := fun b hb => Nat.lt_of_lt_of_le (HN.out.2.1 b hb) HC.out.2.2.size
      have HT2 : Hid (Tn (fun b => Cj b ∨ H b) X X1) := HC.out.2.2.mono (fun _ _ h => .inr h)
      have HD2 : Hid (IsC Y W.heap.size #[.func (.yield l) #[] #[]] ∧ IsC Y (W.heap.size + 1) #[.int .i64 (lf : Int)]) := ⟨d1, d2⟩
      have HYY : Hid (Tn Cj X1 Y ∧ (∀ b, C' b → Cj b ∨ X1.heap.size ≤ b) ∧ (bv = true → J (pre ++ [x]) C' Y) ∧ (bv = false → Jx (pre ++ [x]) C' Y)) := ⟨tY, hC', hJ3⟩
      clear hJ2 hJ3 d1 d2 tY hC' hR
      have stop : Both2 J Jx (xs.take n) (pre ++ [x]) C' Y → Hid (RPost I Ix (pre ++ [x]) (fun b => Cj b ∨ H b) X .ret Y) := fun h => by
        obtain ⟨C2, g1, g2, g3⟩ := HoldI.round (J := J) (φ := fun s : List Int => s) (s := pre ++ [x]) (J' := Both2 J Jx (xs.take n)) (St := fun s X => Code.ret = Code.ret ∧ s <+: xs.take n) HN.out.1 HN1.out HYY.out.1 HYY.out.2.1 h ⟨rfl, HL.out.2.2.1⟩
        exact ⟨C2, HT2.out.trans g1 (fun _ _ h => h), fun b hb => (g2 b hb).imp id (Nat.le_trans HT2.out.size), by rw [HI.out.2.1]; exact g3⟩
      cases bv with
      | true =>
        by_cases hl0 : lf = 0
        · have hb : ((lf : Int) == 0) = true := by simp [hl0]
          have HG := stop (.inr ⟨HYY.out.2.2.1 rfl, HL.out.2.2.2 (by have := HL.out.1; have := HL.out.2.1; omega)⟩)
          clear hl0 stop
          gi_wp2
          exact HG.out
        · have hb : ((lf : Int) == 0) = false := by simp; omega
          have HG : Hid (RPost I Ix (pre ++ [x]) (fun b => Cj b ∨ H b) X .normal Y) := by
            obtain ⟨C2, g1, g2, g3⟩ := HoldI.round (J := J) (φ := fun s : List Int => s) (s := pre ++ [x]) (J' := J) (St := St) HN.out.1 HN1.out HYY.out.1 HYY.out.2.1 (HYY.out.2.2.1 rfl) (by
              rw [HI.out.2.2]
              have h1 := HL.out.1
              have h2 : (pre ++ [x]).length = pre.length + 1 := by simp
              refine ⟨HD2.out.1, by omega, ?_⟩
              rw [h2, show n - (pre.length + 1) = lf by omega]
              exact HD2.out.2)
            exact ⟨C2, HT2.out.trans g1 (fun _ _ h => h), fun b hb => (g2 b hb).imp id (Nat.le_trans HT2.out.size), by rw [HI.out.1]; exact g3⟩
          clear hl0 stop
          gi_wp2
          exact HG.out
      | false =>
        have HG := stop (.inl (HYY.out.2.2.2 rfl))
        clear stop
        gi_wp2
        exact HG.out
    case done =>
      intro C X hIX tX hqX hC hD nD
      rw [hI] at hIX
      have hlen : xs.length < n := by obtain ⟨_, _, _, _, _, q⟩ := hIX; rw [hSt] at q; exact q.2.1
      have hE := fun o => hold_doneG HS.out HSB.out.2.2 t0 (H0 := fun _ => False) (fun b hb => (hHC b hb).2.2.2) hDl HSJ.out.1 hIX (fun _ h => h.elim) tX hqX hC nD o
      clear hI hIx hSt hH
      gi_wp2
      refine ⟨by simp, .inl ⟨_, _, rfl, run_takeDeferred hD, ?_⟩⟩
      obtain ⟨g1, g2, Cj, g3, g4⟩ := hE (.deferred none)
      exact ⟨_, results_none rfl _ _ _, ⟨_, rfl⟩, g1, ⟨g2, HSB.out.1.caught g1 HS.out.sub HR.out.1 (fun h => HD.out _ h (.inr (.inl rfl))), HSB.out.2.1.caught g1 HS.out.sub HR.out.2 (fun h => HD.out _ h (.inr (.inr rfl)))⟩, Cj, g3, .inl (by rw [List.take_of_length_le (by omega)]; exact g4)⟩
    case stop =>
      intro c pre C X hpre hIX tX hqX hC hD nD
      rw [hIx] at hIX
      have hc : c = .ret ∧ pre <+: xs.take n := by obtain ⟨_, _, _, _, _, q⟩ := hIX; exact q
      obtain ⟨rfl, hpt⟩ := hc
      have hE := fun o => hold_doneG HS.out HSB.out.2.2 t0 (H0 := fun _ => False) (fun b hb => (hHC b hb).2.2.2) hDl (Both2.stb HSJ.out.1 HSJ.out.2) hIX (fun _ h => h.elim) tX hqX hC nD o
      clear hI hIx hSt hH
      gi_wp2
      refine ⟨by simp, .inl ⟨_, _, rfl, run_takeDeferred hD, ?_⟩⟩
      obtain ⟨g1, g2, Cj, g3, g4⟩ := hE (.deferred none)
      refine ⟨_, results_none rfl _ _ _, ⟨_, rfl⟩, g1, ⟨g2, HSB.out.1.caught g1 HS.out.sub HR.out.1 (fun h => HD.out _ h (.inr (.inl rfl))), HSB.out.2.1.caught g1 HS.out.sub HR.out.2 (fun h => HD.out _ h (.inr (.inr rfl)))⟩, Cj, g3, ?_⟩
      rcases g4 with g4 | ⟨g4, g5⟩
      · exact .inr ⟨pre, hpt, g4⟩
      · exact .inl (by rw [← g5]; exact g4)

end Go.Proofs.Ytjkgjckkglfokaa

/- tell: all of an iterator handed on. -/
namespace Go.Proofs.Ytjkgjckkglfokaa
open Go.RowKit Go.Shelf
set_option linter.unusedVariables false
set_option linter.unusedSimpArgs false
attribute [local go_sem] Oper.semAt_some

theorem res_bool {fn : Func} {p : Tmp} (h : fn.results = #[.cell p 4]) (tmps : Array Value) (w : World) (b : Nat) (v : Value) (hp : tmps.getD p undef = .pointer (some ⟨b, 0, none⟩)) (hc : w.cell? ⟨b, 0, none⟩ = some v) : (results fn tmps).run Try.prog w = .ok v w := by
  have hp' : tmps[p]?.getD undef = .pointer (some ⟨b, 0, none⟩) := by simpa using hp
  simp [results, h, hp', go_sem, hc]

end Go.Proofs.Ytjkgjckkglfokaa

/- List: all that an iterator tells, gathered. -/
namespace Go.Proofs.Ytjkgjckkglfokaa
open Go.RowKit Go.Shelf
set_option linter.unusedVariables false
set_option linter.unusedSimpArgs false
attribute [local go_sem] Oper.semAt_some

def InfoOf (P : Program) (e : TypeId) (z : Value) (size bytes : Nat) : Prop := (P.info? e).map (fun i => (i.zero, i.size, i.bytes)) = some (some z, size, bytes)

theorem InfoOf.parts {P : Program} {e : TypeId} {z : Value} {size bytes : Nat} (h : InfoOf P e z size bytes) : ∃ i, P.info? e = some i ∧ i.zero = some z ∧ i.size = size ∧ i.bytes = bytes := by
  unfold InfoOf at h
  cases hi : P.info? e with
  | none => rw [hi] at h; cases h
  | some i =>
    rw [hi] at h
    simp only [Option.map_some, Option.some.injEq, Prod.mk.injEq] at h
    exact ⟨i, rfl, h.1, h.2.1, h.2.2⟩
theorem infoI : InfoOf Try.prog 3 (.int .i64 0) 1 8 := by unfold InfoOf; kernel_rfl
theorem own_slice {w : World} {base : Nat} {e : TypeId} {size : Nat} {v : Value} {n : Nat} {xs : List Value} (h : w.ownsRow base e size v n xs) : ∃ a cap, v = .slice a n cap := by
  rcases h.2 with ⟨rfl, rfl⟩ | ⟨g, cap, cur, rfl, _⟩
  · exact ⟨_, _, rfl⟩
  · exact ⟨_, _, rfl⟩
theorem own_block_lt {w : World} {base : Nat} {e : TypeId} {size : Nat} {v : Value} {n : Nat} {xs : List Value} (h : w.ownsRow base e size v n xs) : ∀ k, v.ownBlock = some k → base ≤ k ∧ k < w.heap.size := by
  intro k hk
  rcases h.2 with ⟨rfl, rfl⟩ | ⟨g, cap, cur, rfl, hb, hh, _⟩
  · cases hk
  · simp only [Value.ownBlock, Option.some.injEq] at hk
    subst hk
    exact ⟨hb, (Array.getElem?_eq_some_iff.1 hh).1⟩
theorem own_of_block {w w' : World} {base : Nat} {e : TypeId} {size : Nat} {v : Value} {n : Nat} {xs : List Value} (h : w.ownsRow base e size v n xs) (hb : ∀ k, v.ownBlock = some k → w'.heap[k]? = w.heap[k]?) : w'.ownsRow base e size v n xs := by
  refine ⟨h.1, ?_⟩
  rcases h.2 with hn | ⟨g, cap, cur, rfl, hb', hh, r⟩
  · exact .inl hn
  · exact .inr ⟨g, cap, cur, rfl, hb', (hb g rfl).trans hh, r⟩
def ivs (s : List Int) : List Value := s.map (fun x => .int .i64 x)
/-- A list under way, in a row of one's own. -/
def Row1 (N lbx gbx mbx : Nat) (most : Int) : Inv Int := fun s C X => ∃ a c, C = (fun b => b = lbx ∨ b = gbx ∨ (Value.slice a s.length c).ownBlock = some b) ∧ IsC X lbx #[.slice a s.length c] ∧ X.ownsRow N 3 1 (.slice a s.length c) s.length (ivs s) ∧ IsC X gbx #[.bool false] ∧ IsC X mbx #[.int .i64 most] ∧ (s.length : Int) ≤ most ∧ N ≤ X.heap.size
theorem Row1.stb {N lbx gbx mbx : Nat} {most : Int} : Stb (fun b => b = mbx) (Row1 N lbx gbx mbx most) := by
  refine ⟨?_, ?_⟩
  · rintro s C X ⟨a, c, rfl, q1, q2, q3, q4, -⟩ b hb
    rcases hb with (rfl | rfl | hb) | rfl
    · exact q1.lt
    · exact q3.lt
    · exact (own_block_lt q2 b hb).2
    · exact q4.lt
  · rintro s C A X Y ⟨a, c, rfl, q1, q2, q3, q4, q5⟩ ht hA
    exact ⟨a, c, rfl, q1.tn ht (hA _ (.inl (.inl rfl))), own_of_block q2 (fun k hk => ht.block k (own_block_lt q2 k hk).2 (hA k (.inl (.inr (.inr hk))))), q3.tn ht (hA _ (.inl (.inr (.inl rfl)))), q4.tn ht (hA _ (.inr rfl)), q5.1, Nat.le_trans q5.2 ht.size⟩
/-- Too many. -/
def Long1 (gbx mbx : Nat) (most : Int) (n : Nat) (c : Code) : Inv Int := fun s C X => c = .ret ∧ C = (fun b => b = gbx) ∧ IsC X gbx #[.bool true] ∧ most < (n : Int) ∧ IsC X mbx #[.int .i64 most]
theorem Long1.stb {gbx mbx : Nat} {most : Int} {n : Nat} {c : Code} : Stb (fun b => b = mbx) (Long1 gbx mbx most n c) := by
  refine ⟨?_, ?_⟩
  · rintro s C X ⟨-, rfl, q, -, q2⟩ b hb
    rcases hb with rfl | rfl
    · exact q.lt
    · exact q2.lt
  · rintro s C A X Y ⟨q1, rfl, q2, q3, q4⟩ ht hA
    exact ⟨q1, rfl, q2.tn ht (hA _ (.inl rfl)), q3, q4.tn ht (hA _ (.inr rfl))⟩

def List1P (xs : List Int) (T : Nat → Prop) (Sq : World → Prop) (lbx gbx : Nat) (most : Int) (W : World) (e : Ending) (Y : World) : Prop :=
  (∃ v, e = .returned v) ∧ Tn (fun b => T b ∨ b = lbx ∨ b = gbx) W Y ∧ Sq Y ∧ (((xs.length : Int) ≤ most ∧ IsC Y gbx #[.bool false] ∧ ∃ a c, IsC Y lbx #[.slice a xs.length c] ∧ Y.ownsRow W.heap.size 3 1 (.slice a xs.length c) xs.length (ivs xs)) ∨ (most < (xs.length : Int) ∧ IsC Y gbx #[.bool true]))

set_option maxRecDepth 100000 in
set_option maxHeartbeats 2000000 in
theorem list1_any {gf : Nat} {lb : Array Value} {xs : List Int} {R T : Nat → Prop} {Sq : World → Prop} (hs : IsSeq Try.prog gf lb encI xs R T Sq) (eg : ∀ args w, (callFunc gf args).run Try.prog w = .ok (.enter gf args) w)
    (W : World) (hq : Sq W) (sb lbx mbx gbx : Nat) (most : Int) (hsb : IsC W sb #[.func (.func gf) #[] lb]) (h1 : IsC W lbx #[.slice none 0 0]) (h2 : IsC W mbx #[.int .i64 most]) (h3 : IsC W gbx #[.bool false]) (hm : 0 ≤ most)
    (n1 : ¬ R lbx) (n2 : ¬ R gbx) (n3 : ¬ R mbx) (d1 : lbx ≠ gbx) (d2 : lbx ≠ mbx) (d3 : gbx ≠ mbx) (hl : xs.length < 1099511627776) :
    CallsIn Fence.wide 0 Try.prog 52 #[.pointer (some ⟨sb, 0, none⟩), .pointer (some ⟨lbx, 0, none⟩), .pointer (some ⟨mbx, 0, none⟩), .pointer (some ⟨gbx, 0, none⟩)] W (List1P xs T Sq lbx gbx most W) := by
  have a1 : W.cell? ⟨sb, 0, none⟩ = some (.func (.func gf) #[] lb) := hsb.cell 0
  have HS : Hid (IsSeq Try.prog gf lb encI xs R T Sq) := hs
  have HSQ : Hid (Sq W) := hq
  have HB : Hid (IsC W lbx #[.slice none 0 0] ∧ IsC W mbx #[.int .i64 most] ∧ IsC W gbx #[.bool false]) := ⟨h1, h2, h3⟩
  have HN : Hid (¬ R lbx ∧ ¬ R gbx ∧ ¬ R mbx) := ⟨n1, n2, n3⟩
  have b1 := h1.lt
  have b2 := h2.lt
  have b3 := h3.lt
  have hRl : ∀ b, R b → b < W.heap.size := hs.lt _ hq
  have h0 : Row1 W.heap.size lbx gbx mbx most [] (fun b => b = lbx ∨ b = gbx ∨ (Value.slice none 0 0).ownBlock = some b) W := ⟨none, 0, rfl, h1, ⟨by simp [ivs], .inl ⟨rfl, rfl⟩⟩, h3, h2, by simpa using hm, Nat.le_refl _⟩
  clear hs hq hsb h1 h2 h3 n1 n2 n3
  refine callsIn_of_wp_marks Try.func52 rfl trivial ?_ rfl
  simp only [Try.ntmps52, List.size_toArray, List.length_cons, List.length_nil, Nat.reduceAdd, Nat.reduceSub, Array.replicate_succ, Array.replicate_zero, List.push_toArray, List.append_toArray, List.nil_append, List.cons_append]
  gi_wp2_with fail
  refine range_it (gf := gf) (lb := lb) rfl eg (encs := encI) (fun _ => rfl) HS.out HSQ.out (Row1 W.heap.size lbx gbx mbx most) (Long1 gbx mbx most xs.length) (fun b => b = mbx) Row1.stb (fun c => Long1.stb) _ h0 (fun b hb hr => ?_) (fun b (e : b = mbx) ht => HN.out.2.2 (e ▸ HS.out.sub b ht))
    (fun x a' => a' = { tmps := #[.pointer (some ⟨sb, 0, none⟩), .pointer (some ⟨lbx, 0, none⟩), .pointer (some ⟨mbx, 0, none⟩), .pointer (some ⟨gbx, 0, none⟩), .int .i64 x, .func (.func gf) #[] lb, .int .i64 x, undef, undef, undef, undef, undef, undef, undef, undef], defers := [] })
    ?assign ?body ?done ?stop
  · rcases hb with rfl | rfl | hb
    · exact HN.out.1 hr
    · exact HN.out.2.1 hr
    · cases hb
  case assign =>
    intro l2 x X Kc hK
    unfold encI
    gi_wp2
    rfl
  case body =>
    rintro l3 pre x a' C X hpre ⟨a, c, rfl, q1, q2, q3, q4, q5⟩ rfl
    have hlt : pre.length < xs.length := by
      obtain ⟨t, rfl⟩ := hpre
      simp
    have c1 : X.cell? ⟨lbx, 0, none⟩ = some (.slice a pre.length c) := q1.cell 0
    have c2 : X.cell? ⟨mbx, 0, none⟩ = some (.int .i64 most) := q4.cell 0
    have c3 : X.cell? ⟨gbx, 0, none⟩ = some (.bool false) := q3.cell 0
    have f3 := q3.frozen 0
    have l1 := q1.lt
    have l3 := q3.lt
    by_cases hm : (pre.length : Int) = most
    · have hmb : ((pre.length : Int) == most) = true := by simp [hm]
      obtain ⟨X1, hX1⟩ : ∃ X1, X.setCell ⟨gbx, 0, none⟩ (.bool true) = X1 := ⟨_, rfl⟩
      have t1 : Tn (fun b => b = gbx) X X1 := by rw [← hX1]; exact (Tn.refl (fun b => b = gbx) X).set (p := ⟨gbx, 0, none⟩) (.inl rfl) _
      have HG : Hid (RPost (Row1 W.heap.size lbx gbx mbx most) (Long1 gbx mbx most xs.length) (pre ++ [x]) (fun b => b = lbx ∨ b = gbx ∨ (Value.slice a pre.length c).ownBlock = some b) X .ret X1) := by
        refine ⟨fun b => b = gbx, t1.mono (fun _ _ h => .inr (.inl h)), fun b hb => .inl (.inr (.inl hb)), rfl, rfl, ?_, by omega, q4.tn t1 (fun e => d3 e.symm)⟩
        obtain ⟨t, ht⟩ := q3
        exact ⟨t, by rw [← hX1]; simp [World.setCell, Array.getElem?_modify, ht]⟩
      have HX1 : Hid (X.setCell ⟨gbx, 0, none⟩ (.bool true) = X1) := hX1
      clear hX1 t1 hm q1 q2 q3 q4 q5 hpre hlt
      gi_wp2
      rw [HX1.out]
      exact HG.out
    · have hmb : ((pre.length : Int) == most) = false := by simp [hm]
      have HQ : Hid (X.ownsRow W.heap.size 3 1 (.slice a pre.length c) pre.length (ivs pre)) := q2
      obtain ⟨i0, hi0, hz0, hz1, hz2⟩ := infoI.parts
      have HQa : Hid ((X.alloc (.cells #[.int .i64 x] 3)).ownsRow W.heap.size 3 1 (.slice a pre.length c) pre.length (ivs pre)) := own_of_block q2 (fun k hk => Below.heap_alloc _ _ _ (own_block_lt q2 k hk).2)
      have hWX : W.heap.size ≤ X.heap.size := q5.2
      have q50 := q5.1
      have hfin : ∀ Y la' lc', Y.ownsRow W.heap.size 3 1 (.slice la' (pre.length + 1) lc') (pre.length + 1) (ivs pre ++ [.int .i64 x]) → (X.alloc (.cells #[.int .i64 x] 3)).grownBy Y (Value.slice a pre.length c).ownBlock → ((Value.slice la' (pre.length + 1) lc').ownBlock = (Value.slice a pre.length c).ownBlock ∨ (Value.slice la' (pre.length + 1) lc').ownBlock = some (X.alloc (.cells #[.int .i64 x] 3)).heap.size) →
          Y.cell? ⟨lbx, 0, none⟩ = some (.slice a pre.length c) ∧ Y.frozen? ⟨lbx, 0, none⟩ = false ∧ Hid (RPost (Row1 W.heap.size lbx gbx mbx most) (Long1 gbx mbx most xs.length) (pre ++ [x]) (fun b => b = lbx ∨ b = gbx ∨ (Value.slice a pre.length c).ownBlock = some b) X .normal (Y.setCell ⟨lbx, 0, none⟩ (.slice la' (pre.length + 1) lc'))) := by
        intro Y la' lc' r1 r2 r3
        have nb : ∀ k, (Value.slice a pre.length c).ownBlock = some k → W.heap.size ≤ k := fun k hk => (own_block_lt q2 k hk).1
        have kp : ∀ k, k < X.heap.size → (Value.slice a pre.length c).ownBlock ≠ some k → Y.heap[k]? = X.heap[k]? := fun k hk hne => (r2.block k (by simp; omega) (fun e => hne e.symm)).trans (Below.heap_alloc _ _ _ hk)
        have e1 : IsC Y lbx #[.slice a pre.length c] := q1.of_block (kp lbx q1.lt (fun e => by have := nb _ e; omega))
        have e3 : IsC Y gbx #[.bool false] := q3.of_block (kp gbx q3.lt (fun e => by have := nb _ e; omega))
        have e4 : IsC Y mbx #[.int .i64 most] := q4.of_block (kp mbx q4.lt (fun e => by have := nb _ e; omega))
        have tY : Tn (fun b => (Value.slice a pre.length c).ownBlock = some b) X Y := ⟨r2.os, r2.tape, r2.output, Nat.le_trans (by simp) r2.size, kp⟩
        have t2 : Tn (fun b => b = lbx) Y (Y.setCell ⟨lbx, 0, none⟩ (.slice la' (pre.length + 1) lc')) := (Tn.refl (fun b => b = lbx) Y).set (p := ⟨lbx, 0, none⟩) (.inl rfl) _
        have hlen : (pre ++ [x]).length = pre.length + 1 := by simp
        have rb := own_block_lt r1
        refine ⟨e1.cell 0, e1.frozen 0, fun b => b = lbx ∨ b = gbx ∨ (Value.slice la' (pre.length + 1) lc').ownBlock = some b, (tY.mono (fun _ _ h => .inr (.inr h))).trans t2 (fun _ _ h => .inl h), fun b hb => ?_, la', lc', by rw [hlen], ?_, ?_, e3.tn t2 (fun e => d1 e.symm), e4.tn t2 (fun e => d2 e.symm), by rw [hlen]; omega, Nat.le_trans hWX (Nat.le_trans tY.size t2.size)⟩
        · rcases hb with h | h | h
          · exact .inl (.inl h)
          · exact .inl (.inr (.inl h))
          · rcases r3 with r3 | r3
            · exact .inl (.inr (.inr (r3 ▸ h)))
            · rw [h] at r3
              simp at r3
              exact .inr (by omega)
        · obtain ⟨t, ht⟩ := e1
          refine ⟨t, ?_⟩
          rw [hlen]
          simp [World.setCell, Array.getElem?_modify, ht]
        · rw [hlen, show ivs (pre ++ [x]) = ivs pre ++ [.int .i64 x] by simp [ivs]]
          exact own_of_block r1 (fun k hk => t2.block k (rb k hk).2 (fun e => by have := (rb k hk).1; omega))
      have hnews : ∀ (j : Nat) (u : Value), ([.int .i64 x] : List Value)[j]? = some u → (X.alloc (.cells #[.int .i64 x] 3)).cell? ((⟨X.heap.size, 0, none⟩ : Addr).add j) = some u := by
        intro j u hu
        cases j with
        | zero =>
          simp at hu
          subst hu
          exact (isC_new X #[.int .i64 x] 3).cell 0
        | succ j => simp at hu
      clear q1 q2 q3 q4 q5 hpre hm
      have hlx : lbx < X.heap.size + 1 := by omega
      have hgx : gbx < X.heap.size + 1 := by omega
      gi_wp2_with (gi_at_builtin; (with_reducible refine wpListIn_append_own_at _ rfl _ _ 47 rfl W.heap.size 3 i0 (.int .i64 0) 1 8 Try.underlying47 hi0 hz0 hz1 hz2 rfl (by decide) (.slice a pre.length c) pre.length (ivs pre) ?p1 ?p2 ⟨X.heap.size, 0, none⟩ 1 1 [.int .i64 x] ?p3 ?p4 ?p5 ?p6 ?p7 ?p8 ?p9 ?p10); (case p1 => rfl); (case p2 => exact HQa.out); (case p3 => rfl); (case p4 => rfl); (case p5 => exact hnews); (case p6 => (intro u hu; simp at hu; subst hu; rfl)); (case p7 => (unfold maxLen; omega)); (case p8 => omega); (case p9 => (simp; omega)); intro v' Y q1 q2 q3 q4; obtain ⟨la', lc', rfl⟩ := own_slice q1; obtain ⟨s1, s2, s4⟩ := hfin Y la' lc' q1 q2 q4; clear q1 q2 q3 q4 hfin)
      exact s4.out
  case done =>
    rintro C X ⟨a, c, rfl, q1, q2, q3, q4, q5, q6⟩ tX hqX hC hD nD
    have tP : Tn (fun k => k = W.heap.size) X (X.putObj W.heap.size (.deferred none)) := Tn.put _ _ _
    have HG : Hid (List1P xs T Sq lbx gbx most W (.returned (.tuple #[])) (X.putObj W.heap.size (.deferred none))) := by
      refine ⟨⟨_, rfl⟩, (tX.mono (fun k _ h => ?_)).trans tP (fun i hi (e : i = W.heap.size) => by omega), HS.out.stab _ _ _ hqX tP (fun b hb (e : b = W.heap.size) => by have := hRl b hb; omega), .inl ⟨q5, q3.tn tP (by omega), a, c, q1.tn tP (by omega), own_of_block q2 (fun k hk => tP.block k (own_block_lt q2 k hk).2 (fun (e : k = W.heap.size) => nD (.inr (.inr (e ▸ hk)))))⟩⟩
      rcases h with h | h | h | h
      · exact .inl h
      · exact .inr (.inl h)
      · exact .inr (.inr h)
      · cases h
    clear q1 q2 q3 q4 q5 q6 tX hqX hC nD tP
    gi_wp2
    refine ⟨by simp, .inl ⟨_, _, rfl, run_takeDeferred hD, ?_⟩⟩
    exact ⟨_, results_none rfl _ _ _, HG.out⟩
  case stop =>
    rintro c pre C X hpre ⟨rfl, rfl, q1, q2, q3⟩ tX hqX hC hD nD
    have tP : Tn (fun k => k = W.heap.size) X (X.putObj W.heap.size (.deferred none)) := Tn.put _ _ _
    have HG : Hid (List1P xs T Sq lbx gbx most W (.returned (.tuple #[])) (X.putObj W.heap.size (.deferred none))) := by
      refine ⟨⟨_, rfl⟩, (tX.mono (fun k _ h => ?_)).trans tP (fun i hi (e : i = W.heap.size) => by omega), HS.out.stab _ _ _ hqX tP (fun b hb (e : b = W.heap.size) => by have := hRl b hb; omega), .inr ⟨q2, q1.tn tP (by omega)⟩⟩
      rcases h with h | h | h | h
      · exact .inl h
      · exact .inr (.inl h)
      · exact .inr (.inr h)
      · cases h
    clear q1 q2 q3 tX hqX hC nD tP
    gi_wp2
    refine ⟨by simp, .inl ⟨_, _, rfl, run_takeDeferred hD, ?_⟩⟩
    exact ⟨_, results_none rfl _ _ _, HG.out⟩

end Go.Proofs.Ytjkgjckkglfokaa

/- List, of an iterator that leaves something else than it wants. -/
namespace Go.Proofs.Ytjkgjckkglfokaa
open Go.RowKit Go.Shelf
set_option linter.unusedVariables false
set_option linter.unusedSimpArgs false
attribute [local go_sem] Oper.semAt_some

set_option maxRecDepth 100000 in
set_option maxHeartbeats 2000000 in
theorem list1_anyG {gf : Nat} {lb : Array Value} {xs : List Int} {R T : Nat → Prop} {Sq Sq' : World → Prop} (hs : IsSeqG True Try.prog gf lb encI xs R T Sq Sq') (eg : ∀ args w, (callFunc gf args).run Try.prog w = .ok (.enter gf args) w)
    (W : World) (hq : Sq W) (sb lbx mbx gbx : Nat) (most : Int) (hsb : IsC W sb #[.func (.func gf) #[] lb]) (h1 : IsC W lbx #[.slice none 0 0]) (h2 : IsC W mbx #[.int .i64 most]) (h3 : IsC W gbx #[.bool false]) (hm : 0 ≤ most)
    (n1 : ¬ R lbx) (n2 : ¬ R gbx) (n3 : ¬ R mbx) (d1 : lbx ≠ gbx) (d2 : lbx ≠ mbx) (d3 : gbx ≠ mbx) (hl : xs.length < 1099511627776) :
    CallsIn Fence.wide 0 Try.prog 52 #[.pointer (some ⟨sb, 0, none⟩), .pointer (some ⟨lbx, 0, none⟩), .pointer (some ⟨mbx, 0, none⟩), .pointer (some ⟨gbx, 0, none⟩)] W (List1P xs T Sq' lbx gbx most W) := by
  have a1 : W.cell? ⟨sb, 0, none⟩ = some (.func (.func gf) #[] lb) := hsb.cell 0
  have HS : Hid (IsSeqG True Try.prog gf lb encI xs R T Sq Sq') := hs
  have HSQ : Hid (Sq W) := hq
  have HB : Hid (IsC W lbx #[.slice none 0 0] ∧ IsC W mbx #[.int .i64 most] ∧ IsC W gbx #[.bool false]) := ⟨h1, h2, h3⟩
  have HN : Hid (¬ R lbx ∧ ¬ R gbx ∧ ¬ R mbx) := ⟨n1, n2, n3⟩
  have b1 := h1.lt
  have b2 := h2.lt
  have b3 := h3.lt
  have hRl : ∀ b, R b → b < W.heap.size := hs.lt _ hq
  have h0 : Row1 W.heap.size lbx gbx mbx most [] (fun b => b = lbx ∨ b = gbx ∨ (Value.slice none 0 0).ownBlock = some b) W := ⟨none, 0, rfl, h1, ⟨by simp [ivs], .inl ⟨rfl, rfl⟩⟩, h3, h2, by simpa using hm, Nat.le_refl _⟩
  clear hs hq hsb h1 h2 h3 n1 n2 n3
  refine callsIn_of_wp_marks Try.func52 rfl trivial ?_ rfl
  simp only [Try.ntmps52, List.size_toArray, List.length_cons, List.length_nil, Nat.reduceAdd, Nat.reduceSub, Array.replicate_succ, Array.replicate_zero, List.push_toArray, List.append_toArray, List.nil_append, List.cons_append]
  gi_wp2_with fail
  refine range_itG (gf := gf) (lb := lb) rfl eg (encs := encI) (fun _ => rfl) HS.out HSQ.out (Row1 W.heap.size lbx gbx mbx most) (Long1 gbx mbx most xs.length) (fun b => b = mbx) (.inl trivial) Row1.stb (fun c => Long1.stb) _ h0 (fun b hb hr => ?_) (fun b (e : b = mbx) ht => HN.out.2.2 (e ▸ HS.out.sub b ht))
    (fun x a' => a' = { tmps := #[.pointer (some ⟨sb, 0, none⟩), .pointer (some ⟨lbx, 0, none⟩), .pointer (some ⟨mbx, 0, none⟩), .pointer (some ⟨gbx, 0, none⟩), .int .i64 x, .func (.func gf) #[] lb, .int .i64 x, undef, undef, undef, undef, undef, undef, undef, undef], defers := [] })
    ?assign ?body ?done ?stop
  · rcases hb with rfl | rfl | hb
    · exact HN.out.1 hr
    · exact HN.out.2.1 hr
    · cases hb
  case assign =>
    intro l2 x X Kc hK
    unfold encI
    gi_wp2
    rfl
  case body =>
    rintro l3 pre x a' C X hpre ⟨a, c, rfl, q1, q2, q3, q4, q5⟩ rfl
    have hlt : pre.length < xs.length := by
      obtain ⟨t, rfl⟩ := hpre
      simp
    have c1 : X.cell? ⟨lbx, 0, none⟩ = some (.slice a pre.length c) := q1.cell 0
    have c2 : X.cell? ⟨mbx, 0, none⟩ = some (.int .i64 most) := q4.cell 0
    have c3 : X.cell? ⟨gbx, 0, none⟩ = some (.bool false) := q3.cell 0
    have f3 := q3.frozen 0
    have l1 := q1.lt
    have l3 := q3.lt
    by_cases hm : (pre.length : Int) = most
    · have hmb : ((pre.length : Int) == most) = true := by simp [hm]
      obtain ⟨X1, hX1⟩ : ∃ X1, X.setCell ⟨gbx, 0, none⟩ (.bool true) = X1 := ⟨_, rfl⟩
      have t1 : Tn (fun b => b = gbx) X X1 := by rw [← hX1]; exact (Tn.refl (fun b => b = gbx) X).set (p := ⟨gbx, 0, none⟩) (.inl rfl) _
      have HG : Hid (RPost (Row1 W.heap.size lbx gbx mbx most) (Long1 gbx mbx most xs.length) (pre ++ [x]) (fun b => b = lbx ∨ b = gbx ∨ (Value.slice a pre.length c).ownBlock = some b) X .ret X1) := by
        refine ⟨fun b => b = gbx, t1.mono (fun _ _ h => .inr (.inl h)), fun b hb => .inl (.inr (.inl hb)), rfl, rfl, ?_, by omega, q4.tn t1 (fun e => d3 e.symm)⟩
        obtain ⟨t, ht⟩ := q3
        exact ⟨t, by rw [← hX1]; simp [World.setCell, Array.getElem?_modify, ht]⟩
      have HX1 : Hid (X.setCell ⟨gbx, 0, none⟩ (.bool true) = X1) := hX1
      clear hX1 t1 hm q1 q2 q3 q4 q5 hpre hlt
      gi_wp2
      rw [HX1.out]
      exact HG.out
    · have hmb : ((pre.length : Int) == most) = false := by simp [hm]
      have HQ : Hid (X.ownsRow W.heap.size 3 1 (.slice a pre.length c) pre.length (ivs pre)) := q2
      obtain ⟨i0, hi0, hz0, hz1, hz2⟩ := infoI.parts
      have HQa : Hid ((X.alloc (.cells #[.int .i64 x] 3)).ownsRow W.heap.size 3 1 (.slice a pre.length c) pre.length (ivs pre)) := own_of_block q2 (fun k hk => Below.heap_alloc _ _ _ (own_block_lt q2 k hk).2)
      have hWX : W.heap.size ≤ X.heap.size := q5.2
      have q50 := q5.1
      have hfin : ∀ Y la' lc', Y.ownsRow W.heap.size 3 1 (.slice la' (pre.length + 1) lc') (pre.length + 1) (ivs pre ++ [.int .i64 x]) → (X.alloc (.cells #[.int .i64 x] 3)).grownBy Y (Value.slice a pre.length c).ownBlock → ((Value.slice la' (pre.length + 1) lc').ownBlock = (Value.slice a pre.length c).ownBlock ∨ (Value.slice la' (pre.length + 1) lc').ownBlock = some (X.alloc (.cells #[.int .i64 x] 3)).heap.size) →
          Y.cell? ⟨lbx, 0, none⟩ = some (.slice a pre.length c) ∧ Y.frozen? ⟨lbx, 0, none⟩ = false ∧ Hid (RPost (Row1 W.heap.size lbx gbx mbx most) (Long1 gbx mbx most xs.length) (pre ++ [x]) (fun b => b = lbx ∨ b = gbx ∨ (Value.slice a pre.length c).ownBlock = some b) X .normal (Y.setCell ⟨lbx, 0, none⟩ (.slice la' (pre.length + 1) lc'))) := by
        intro Y la' lc' r1 r2 r3
        have nb : ∀ k, (Value.slice a pre.length c).ownBlock = some k → W.heap.size ≤ k := fun k hk => (own_block_lt q2 k hk).1
        have kp : ∀ k, k < X.heap.size → (Value.slice a pre.length c).ownBlock ≠ some k → Y.heap[k]? = X.heap[k]? := fun k hk hne => (r2.block k (by simp; omega) (fun e => hne e.symm)).trans (Below.heap_alloc _ _ _ hk)
        have e1 : IsC Y lbx #[.slice a pre.length c] := q1.of_block (kp lbx q1.lt (fun e => by have := nb _ e; omega))
        have e3 : IsC Y gbx #[.bool false] := q3.of_block (kp gbx q3.lt (fun e => by have := nb _ e; omega))
        have e4 : IsC Y mbx #[.int .i64 most] := q4.of_block (kp mbx q4.lt (fun e => by have := nb _ e; omega))
        have tY : Tn (fun b => (Value.slice a pre.length c).ownBlock = some b) X Y := ⟨r2.os, r2.tape, r2.output, Nat.le_trans (by simp) r2.size, kp⟩
        have t2 : Tn (fun b => b = lbx) Y (Y.setCell ⟨lbx, 0, none⟩ (.slice la' (pre.length + 1) lc')) := (Tn.refl (fun b => b = lbx) Y).set (p := ⟨lbx, 0, none⟩) (.inl rfl) _
        have hlen : (pre ++ [x]).length = pre.length + 1 := by simp
        have rb := own_block_lt r1
        refine ⟨e1.cell 0, e1.frozen 0, fun b => b = lbx ∨ b = gbx ∨ (Value.slice la' (pre.length + 1) lc').ownBlock = some b, (tY.mono (fun _ _ h => .inr (.inr h))).trans t2 (fun _ _ h => .inl h), fun b hb => ?_, la', lc', by rw [hlen], ?_, ?_, e3.tn t2 (fun e => d1 e.symm), e4.tn t2 (fun e => d2 e.symm), by rw [hlen]; omega, Nat.le_trans hWX (Nat.le_trans tY.size t2.size)⟩
        · rcases hb with h | h | h
          · exact .inl (.inl h)
          · exact .inl (.inr (.inl h))
          · rcases r3 with r3 | r3
            · exact .inl (.inr (.inr (r3 ▸ h)))
            · rw [h] at r3
              simp at r3
              exact .inr (by omega)
        · obtain ⟨t, ht⟩ := e1
          refine ⟨t, ?_⟩
          rw [hlen]
          simp [World.setCell, Array.getElem?_modify, ht]
        · rw [hlen, show ivs (pre ++ [x]) = ivs pre ++ [.int .i64 x] by simp [ivs]]
          exact own_of_block r1 (fun k hk => t2.block k (rb k hk).2 (fun e => by have := (rb k hk).1; omega))
      have hnews : ∀ (j : Nat) (u : Value), ([.int .i64 x] : List Value)[j]? = some u → (X.alloc (.cells #[.int .i64 x] 3)).cell? ((⟨X.heap.size, 0, none⟩ : Addr).add j) = some u := by
        intro j u hu
        cases j with
        | zero =>
          simp at hu
          subst hu
          exact (isC_new X #[.int .i64 x] 3).cell 0
        | succ j => simp at hu
      clear q1 q2 q3 q4 q5 hpre hm
      have hlx : lbx < X.heap.size + 1 := by omega
      have hgx : gbx < X.heap.size + 1 := by omega
      gi_wp2_with (gi_at_builtin; (with_reducible refine wpListIn_append_own_at _ rfl _ _ 47 rfl W.heap.size 3 i0 (.int .i64 0) 1 8 Try.underlying47 hi0 hz0 hz1 hz2 rfl (by decide) (.slice a pre.length c) pre.length (ivs pre) ?p1 ?p2 ⟨X.heap.size, 0, none⟩ 1 1 [.int .i64 x] ?p3 ?p4 ?p5 ?p6 ?p7 ?p8 ?p9 ?p10); (case p1 => rfl); (case p2 => exact HQa.out); (case p3 => rfl); (case p4 => rfl); (case p5 => exact hnews); (case p6 => (intro u hu; simp at hu; subst hu; rfl)); (case p7 => (unfold maxLen; omega)); (case p8 => omega); (case p9 => (simp; omega)); intro v' Y q1 q2 q3 q4; obtain ⟨la', lc', rfl⟩ := own_slice q1; obtain ⟨s1, s2, s4⟩ := hfin Y la' lc' q1 q2 q4; clear q1 q2 q3 q4 hfin)
      exact s4.out
  case done =>
    rintro C X ⟨a, c, rfl, q1, q2, q3, q4, q5, q6⟩ tX hqX hC hD nD
    have tP : Tn (fun k => k = W.heap.size) X (X.putObj W.heap.size (.deferred none)) := Tn.put _ _ _
    have HG : Hid (List1P xs T Sq' lbx gbx most W (.returned (.tuple #[])) (X.putObj W.heap.size (.deferred none))) := by
      refine ⟨⟨_, rfl⟩, (tX.mono (fun k _ h => ?_)).trans tP (fun i hi (e : i = W.heap.size) => by omega), HS.out.stab' _ _ _ hqX tP (fun b hb (e : b = W.heap.size) => by have := hRl b hb; omega), .inl ⟨q5, q3.tn tP (by omega), a, c, q1.tn tP (by omega), own_of_block q2 (fun k hk => tP.block k (own_block_lt q2 k hk).2 (fun (e : k = W.heap.size) => nD (.inr (.inr (e ▸ hk)))))⟩⟩
      rcases h with h | h | h | h
      · exact .inl h
      · exact .inr (.inl h)
      · exact .inr (.inr h)
      · cases h
    clear q1 q2 q3 q4 q5 q6 tX hqX hC nD tP
    gi_wp2
    refine ⟨by simp, .inl ⟨_, _, rfl, run_takeDeferred hD, ?_⟩⟩
    exact ⟨_, results_none rfl _ _ _, HG.out⟩
  case stop =>
    rintro c pre C X hpre ⟨rfl, rfl, q1, q2, q3⟩ tX hqX hC hD nD
    have tP : Tn (fun k => k = W.heap.size) X (X.putObj W.heap.size (.deferred none)) := Tn.put _ _ _
    have HG : Hid (List1P xs T Sq' lbx gbx most W (.returned (.tuple #[])) (X.putObj W.heap.size (.deferred none))) := by
      refine ⟨⟨_, rfl⟩, (tX.mono (fun k _ h => ?_)).trans tP (fun i hi (e : i = W.heap.size) => by omega), HS.out.stab' _ _ _ hqX tP (fun b hb (e : b = W.heap.size) => by have := hRl b hb; omega), .inr ⟨q2, q1.tn tP (by omega)⟩⟩
      rcases h with h | h | h | h
      · exact .inl h
      · exact .inr (.inl h)
      · exact .inr (.inr h)
      · cases h
    clear q1 q2 q3 tX hqX hC nD tP
    gi_wp2
    refine ⟨by simp, .inl ⟨_, _, rfl, run_takeDeferred hD, ?_⟩⟩
    exact ⟨_, results_none rfl _ _ _, HG.out⟩

end Go.Proofs.Ytjkgjckkglfokaa
