/- Most. -/
import Derived.Test.YtjkgjckkglfokaaHo
namespace Go.Proofs.Ytjkgjckkglfokaa
open Go.RowKit Go.Shelf
set_option linter.unusedVariables false
attribute [local go_sem] Oper.semAt_some

/-- What was told, and stopped: all of it, or as many as were wanted. -/
def Both2 {α : Type} (J Jx : Inv α) (L : List α) : Inv α := fun t C X => Jx t C X ∨ (J t C X ∧ t = L)
theorem Both2.stb {α : Type} {J Jx : Inv α} {L : List α} {D : Nat → Prop} (h1 : Stb D J) (h2 : Stb D Jx) : Stb D (Both2 J Jx L) := by
  refine ⟨fun s C X h b hb => ?_, fun s C A X Y h ht hA => ?_⟩
  · rcases h with h | h
    · exact h2.1 _ _ _ h b hb
    · exact h1.1 _ _ _ h.1 b hb
  · rcases h with h | h
    · exact .inl (h2.2 _ _ _ _ _ h ht hA)
    · exact .inr ⟨h1.2 _ _ _ _ _ h.1 ht hA, h.2⟩

theorem pre_len {α : Type} {pre xs : List α} {x : α} {n : Nat} (h : pre ++ [x] <+: xs) (hn : pre.length < n) : pre ++ [x] <+: xs.take n ∧ (pre.length + 1 = n → pre ++ [x] = xs.take n) := by
  obtain ⟨t, ht⟩ := h
  subst ht
  have e : ((pre ++ [x]) ++ t).take n = (pre ++ [x]) ++ t.take (n - (pre.length + 1)) := by
    rw [List.take_append, List.take_of_length_le (by simp; omega)]
    simp
  rw [e]
  refine ⟨List.prefix_append _ _, fun h => ?_⟩
  rw [show n - (pre.length + 1) = 0 by omega]
  simp

set_option maxRecDepth 100000 in
set_option maxHeartbeats 2000000 in
theorem most_seq {gf : Nat} {lb : Array Value} {xs : List Int} {R T : Nat → Prop} {Sq : World → Prop} (hs : IsSeq Try.prog gf lb encI xs R T Sq) (eg : ∀ args w, (callFunc gf args).run Try.prog w = .ok (.enter gf args) w) {sb mb n : Nat} (hn : 1 ≤ n) (hn2 : n < 9223372036854775808)
    (h1 : ¬ R sb) (h2 : ¬ R mb) :
    IsSeq Try.prog 64 #[.pointer (some ⟨sb, 0, none⟩), .pointer (some ⟨mb, 0, none⟩)] encI (xs.take n) (fun b => R b ∨ b = sb ∨ b = mb) T (fun W => Sq W ∧ IsC W sb #[.func (.func gf) #[] lb] ∧ IsC W mb #[.int .i64 (n : Int)]) := by
  refine ⟨fun b hb => .inl (hs.sub b hb), fun W h b hb => ?_, fun W W' A h ht hA => ⟨hs.stab _ _ _ h.1 ht (fun b hb => hA b (.inl hb)), h.2.1.tn ht (hA _ (.inr (.inl rfl))), h.2.2.tn ht (hA _ (.inr (.inr rfl)))⟩, ?_⟩
  · rcases hb with hb | rfl | rfl
    · exact hs.lt _ h.1 b hb
    · exact h.2.1.lt
    · exact h.2.2.lt
  · rintro W l J Jx C0 D ⟨hq, hsb, hmb⟩ stJ stJx hY h0 hd hdT
    have a1 : W.cell? ⟨sb, 0, none⟩ = some (.func (.func gf) #[] lb) := hsb.cell 0
    have a2 : W.cell? ⟨mb, 0, none⟩ = some (.int .i64 (n : Int)) := hmb.cell 0
    have l1 := hsb.lt
    have l2 := hmb.lt
    obtain ⟨W0, hW0⟩ : ∃ W0, (W.alloc (.cells #[.func (.yield l) #[] #[]] 63)).alloc (.cells #[.int .i64 (n : Int)] 3) = W0 := ⟨_, rfl⟩
    have HW0 : Hid ((W.alloc (.cells #[.func (.yield l) #[] #[]] 63)).alloc (.cells #[.int .i64 (n : Int)] 3) = W0) := hW0
    clear hW0
    have hq1 : ∀ w, (binOp .eql 50 (.func (.func gf) #[] lb) .nilFunc).run Try.prog w = .ok (.bool false) w := fun _ => by kernel_rfl
    have HY : Hid (RoundOk Try.prog l encI (xs.take n) J Jx) := hY
    have HD : Hid (∀ b, C0 b → ¬ (R b ∨ b = sb ∨ b = mb)) := hd
    have HSJ : Hid (Stb D J ∧ Stb D Jx) := ⟨stJ, stJx⟩
    have HH0 : Hid (J [] C0 W) := h0
    have HSB : Hid (IsC W sb #[.func (.func gf) #[] lb] ∧ IsC W mb #[.int .i64 (n : Int)] ∧ Sq W) := ⟨hsb, hmb, hq⟩
    have HS : Hid (IsSeq Try.prog gf lb encI xs R T Sq) := hs
    have HR : Hid (¬ R sb ∧ ¬ R mb) := ⟨h1, h2⟩
    have hnb : ¬ ((n : Int) < 1) := by omega
    have l1s : sb < W.heap.size + 1 := by omega
    have HDT : Hid (∀ b, D b → ¬ T b) := hdT
    clear hdT hY hd stJ stJx h0 hsb hmb hq hs h1 h2
    refine callsIn_of_wp_marks Try.func64 rfl trivial ?_ rfl
    simp only [Try.ntmps64, List.size_toArray, List.length_cons, List.length_nil, Nat.reduceAdd, Nat.reduceSub, Array.replicate_succ, Array.replicate_zero, List.push_toArray, List.append_toArray, List.nil_append, List.cons_append]
    gi_wp2_with fail
    rw [HW0.out]
    have hb0 : Below W.heap.size W W0 := by rw [← HW0.out]; exact ((Below.refl _ _).alloc (Nat.le_refl _) _).alloc (by simp) _
    have t0 : Tn (fun _ => False) W W0 := Tn.of_below hb0 (Nat.le_refl _)
    have hy0 : IsC W0 W.heap.size #[.func (.yield l) #[] #[]] ∧ IsC W0 (W.heap.size + 1) #[.int .i64 (n : Int)] := by
      rw [← HW0.out]
      refine ⟨(isC_new W _ _).tn ((Tn.refl (fun _ => False) _).alloc _) (fun h => h), ?_⟩
      have := isC_new (W.alloc (.cells #[.func (.yield l) #[] #[]] 63)) #[.int .i64 (n : Int)] 3
      simpa using this
    have hs0 : W.heap.size + 1 < W0.heap.size := hy0.2.lt
    have hC0l : ∀ b, C0 b → b < W.heap.size := fun b hb => HSJ.out.1.1 _ _ _ HH0.out b (.inl hb)
    have hDl : ∀ b, D b → b < W.heap.size := fun b hb => HSJ.out.1.1 _ _ _ HH0.out b (.inr hb)
    have hRl : ∀ b, R b → b < W.heap.size := HS.out.lt _ HSB.out.2.2
    obtain ⟨H, hH⟩ : ∃ H : Nat → Prop, H = fun b => b = W.heap.size ∨ b = W.heap.size + 1 := ⟨_, rfl⟩
    obtain ⟨St, hSt⟩ : ∃ St : List Int → World → Prop, St = fun s X => IsC X W.heap.size #[.func (.yield l) #[] #[]] ∧ s.length < n ∧ IsC X (W.heap.size + 1) #[.int .i64 ((n - s.length : Nat) : Int)] := ⟨_, rfl⟩
    obtain ⟨I, hI⟩ : ∃ I : Inv Int, I = HoldI J (fun s => s) H St := ⟨_, rfl⟩
    obtain ⟨Ix, hIx⟩ : ∃ Ix : Code → Inv Int, Ix = fun c => HoldI (Both2 J Jx (xs.take n)) (fun s => s) H (fun s X => c = .ret ∧ s <+: xs.take n) := ⟨_, rfl⟩
    have stS : ∀ s A X Y, St s X → Tn A X Y → (∀ b, H b → ¬ A b) → St s Y := by
      intro s A X Y h ht hA
      rw [hSt] at h ⊢
      rw [hH] at hA
      exact ⟨h.1.tn ht (hA _ (.inl rfl)), h.2.1, h.2.2.tn ht (hA _ (.inr rfl))⟩
    have stI : Stb D I := by rw [hI]; exact HoldI.stb HSJ.out.1 stS
    have stIx : ∀ c, Stb D (Ix c) := fun c => by rw [hIx]; exact HoldI.stb (Both2.stb HSJ.out.1 HSJ.out.2) (fun s A X Y h ht hA => h)
    have hHC : ∀ b, H b → ¬ C0 b ∧ b < W0.heap.size ∧ ¬ R b ∧ (W.heap.size ≤ b ∨ False) := by
      intro b hb
      rw [hH] at hb
      have : W.heap.size ≤ b ∧ b < W0.heap.size := by rcases hb with rfl | rfl <;> omega
      exact ⟨fun h => by have := hC0l _ h; omega, this.2, fun h => by have := hRl _ h; omega, .inl this.1⟩
    have hW : Sq W0 := HS.out.stab _ _ _ HSB.out.2.2 t0 (fun _ _ h => h)
    have h0 : I [] (fun b => C0 b ∨ H b) W0 := by
      rw [hI]
      exact ⟨C0, rfl, HSJ.out.1.2 _ _ _ _ _ HH0.out t0 (fun _ _ h => h), fun b hb => (hHC b hb).1, fun b hb => (hHC b hb).2.1, by rw [hSt]; exact ⟨hy0.1, by show 0 < n; omega, hy0.2⟩⟩
    refine range_it (gf := gf) (lb := lb) rfl eg (encs := encI) (fun _ => rfl) HS.out hW I Ix D stI stIx (fun b => C0 b ∨ H b) h0 (fun b hb hr => hb.elim (fun h => HD.out b h (.inl hr)) (fun h => (hHC b h).2.2.1 hr)) HDT.out
      (fun x a' => a' = { tmps := #[.func (.yield l) #[] #[], .pointer (some ⟨sb, 0, none⟩), .pointer (some ⟨mb, 0, none⟩), .pointer (some ⟨W.heap.size, 0, none⟩), .pointer (some ⟨W.heap.size + 1, 0, none⟩), .int .i64 x, .func (.func gf) #[] lb, .bool false, .bool false, .int .i64 (n : Int), .bool false, .bool false, .int .i64 (n : Int), .func (.func gf) #[] lb, .int .i64 x, undef, undef, undef, undef, undef, undef, undef, undef, undef, undef], defers := [] })
      ?assign ?body ?done ?stop
    case assign =>
      intro l2 x X Kc hK
      unfold encI
      gi_wp2
      rfl
    case body =>
      rintro l3 pre x a' C X hpre hIX rfl
      obtain ⟨Cj, rfl, hJ, n1, n2, hsx⟩ := (by rw [hI] at hIX; exact hIX : HoldI J (fun s => s) H St pre C X)
      rw [hSt] at hsx
      obtain ⟨g1, g2, g3⟩ := hsx
      obtain ⟨p1, p2⟩ := pre_len hpre g2
      obtain ⟨lf, hlf⟩ : ∃ lf : Nat, lf + 1 = n - pre.length := ⟨n - pre.length - 1, by omega⟩
      have k0 : X.cell? ⟨W.heap.size + 1, 0, none⟩ = some (.int .i64 ((lf : Int) + 1)) := by
        have := g3.cell 0
        rw [← hlf] at this
        exact this
      have f0 : X.frozen? ⟨W.heap.size + 1, 0, none⟩ = false := g3.frozen 0
      have k2 : X.cell? ⟨W.heap.size, 0, none⟩ = some (.func (.yield l) #[] #[]) := g1.cell 0
      obtain ⟨X1, hX1⟩ : ∃ X1, X.setCell ⟨W.heap.size + 1, 0, none⟩ (.int .i64 (lf : Int)) = X1 := ⟨_, rfl⟩
      have t1 : Tn H X X1 := by rw [← hX1, hH]; exact (Tn.refl _ _).set (.inl (.inr rfl)) _
      have c1 : IsC X1 W.heap.size #[.func (.yield l) #[] #[]] := by
        rw [← hX1]
        exact g1.of_block (Below.heap_setCell _ _ _ _ (by simp))
      have c2 : IsC X1 (W.heap.size + 1) #[.int .i64 (lf : Int)] := by
        obtain ⟨t, ht⟩ := g3
        refine ⟨t, ?_⟩
        rw [← hX1]
        simp [World.setCell, Array.getElem?_modify, ht]
      have hJ1 : J pre Cj X1 := HSJ.out.1.2 _ _ _ _ _ hJ t1 (fun b hb h => hb.elim (n1 b h) (fun hb => by have := hDl b hb; rw [hH] at h; omega))
      have hX := HY.out pre x Cj X1 p1 hJ1
      unfold encI at hX
      obtain ⟨fn, tmps, assign, body, hy2, hR⟩ := hX
      have HX1 : Hid (X.setCell ⟨W.heap.size + 1, 0, none⟩ (.int .i64 (lf : Int)) = X1) := hX1
      have lY : W.heap.size + 1 < X1.heap.size := c2.lt
      have hn1 : ∀ b w, (Op.unary UnOp.not (.bool b)).run Try.prog w = .ok (.bool (!b)) w := fun b _ => by cases b <;> kernel_rfl
      have hlfb : (lf : Int) < 9223372036854775807 := by omega
      have HN : Hid ((∀ b, H b → ¬ Cj b) ∧ (∀ b, H b → b < X.heap.size) ∧ H = fun b => b = W.heap.size ∨ b = W.heap.size + 1) := ⟨n1, n2, hH⟩
      have HI : Hid (I = HoldI J (fun s => s) H St ∧ (Ix = fun c => HoldI (Both2 J Jx (xs.take n)) (fun s => s) H (fun s X => c = .ret ∧ s <+: xs.take n)) ∧ St = fun s X => IsC X W.heap.size #[.func (.yield l) #[] #[]] ∧ s.length < n ∧ IsC X (W.heap.size + 1) #[.int .i64 ((n - s.length : Nat) : Int)]) := ⟨hI, hIx, hSt⟩
      have HC : Hid (IsC X1 W.heap.size #[.func (.yield l) #[] #[]] ∧ IsC X1 (W.heap.size + 1) #[.int .i64 (lf : Int)] ∧ Tn H X X1) := ⟨c1, c2, t1⟩
      have HL : Hid (lf + 1 = n - pre.length ∧ pre.length < n ∧ pre ++ [x] <+: xs.take n ∧ (pre.length + 1 = n → pre ++ [x] = xs.take n)) := ⟨hlf, g2, p1, p2⟩
      clear hJ hJ1 n1 n2 g1 g2 g3 p1 p2 hlf hX1 t1 c1 c2 hIX hI hIx hSt hH stS stI stIx hHC h0 hW
      rw [← HX1.out] at hy2
      gi_wp2_with fail
      rw [HX1.out]
      refine ⟨rfl, RoundIn.mono (F := Fence.wide) hR ?_⟩
      rintro e Y ⟨C', tY, hC', hJ2⟩
      obtain ⟨bv, rfl, hJ3⟩ := yes_no hJ2
      have d1 : IsC Y W.heap.size #[.func (.yield l) #[] #[]] := HC.out.1.tn tY (HN.out.1 _ (by rw [HN.out.2.2]; exact .inl rfl))
      have d2 : IsC Y (W.heap.size + 1) #[.int .i64 (lf : Int)] := HC.out.2.1.tn tY (HN.out.1 _ (by rw [HN.out.2.2]; exact .inr rfl))
      have e1 : Y.cell? ⟨W.heap.size + 1, 0, none⟩ = some (.int .i64 (lf : Int)) := d2.cell 0
      have HN1 : Hid (∀ b, H b → b < X1.heap.size) := fun b hb => Nat.lt_of_lt_of_le (HN.out.2.1 b hb) HC.out.2.2.size
      have HT2 : Hid (Tn (fun b => Cj b ∨ H b) X X1) := HC.out.2.2.mono (fun _ _ h => .inr h)
      have HD2 : Hid (IsC Y W.heap.size #[.func (.yield l) #[] #[]] ∧ IsC Y (W.heap.size + 1) #[.int .i64 (lf : Int)]) := ⟨d1, d2⟩
      have HYY : Hid (Tn Cj X1 Y ∧ (∀ b, C' b → Cj b ∨ X1.heap.size ≤ b) ∧ (bv = true → J (pre ++ [x]) C' Y) ∧ (bv = false → Jx (pre ++ [x]) C' Y)) := ⟨tY, hC', hJ3⟩
      clear hJ2 hJ3 d1 d2 tY hC' hR
      have stop : Both2 J Jx (xs.take n) (pre ++ [x]) C' Y → Hid (RPost I Ix (pre ++ [x]) (fun b => Cj b ∨ H b) X .ret Y) := fun h => by
        obtain ⟨C2, g1, g2, g3⟩ := HoldI.round (J := J) (φ := fun s : List Int => s) (s := pre ++ [x]) (J' := Both2 J Jx (xs.take n)) (St := fun s X => Code.ret = Code.ret ∧ s <+: xs.take n) HN.out.1 HN1.out HYY.out.1 HYY.out.2.1 h ⟨rfl, HL.out.2.2.1⟩
        exact ⟨C2, HT2.out.trans g1 (fun _ _ h => h), fun b hb => (g2 b hb).imp id (Nat.le_trans HT2.out.size), by rw [HI.out.2.1]; exact g3⟩
      cases bv with
      | true =>
        by_cases hl0 : lf = 0
        · have hb : ((lf : Int) == 0) = true := by simp [hl0]
          have HG := stop (.inr ⟨HYY.out.2.2.1 rfl, HL.out.2.2.2 (by have := HL.out.1; have := HL.out.2.1; omega)⟩)
          clear hl0 stop
          gi_wp2
          exact HG.out
        · have hb : ((lf : Int) == 0) = false := by simp; omega
          have HG : Hid (RPost I Ix (pre ++ [x]) (fun b => Cj b ∨ H b) X .normal Y) := by
            obtain ⟨C2, g1, g2, g3⟩ := HoldI.round (J := J) (φ := fun s : List Int => s) (s := pre ++ [x]) (J' := J) (St := St) HN.out.1 HN1.out HYY.out.1 HYY.out.2.1 (HYY.out.2.2.1 rfl) (by
              rw [HI.out.2.2]
              have h1 := HL.out.1
              have h2 : (pre ++ [x]).length = pre.length + 1 := by simp
              refine ⟨HD2.out.1, by omega, ?_⟩
              rw [h2, show n - (pre.length + 1) = lf by omega]
              exact HD2.out.2)
            exact ⟨C2, HT2.out.trans g1 (fun _ _ h => h), fun b hb => (g2 b hb).imp id (Nat.le_trans HT2.out.size), by rw [HI.out.1]; exact g3⟩
          clear hl0 stop
          gi_wp2
          exact HG.out
      | false =>
        have HG := stop (.inl (HYY.out.2.2.2 rfl))
        clear stop
        gi_wp2
        exact HG.out
    case done =>
      intro C X hIX tX hqX hC hD nD
      rw [hI] at hIX
      have hlen : xs.length < n := by obtain ⟨_, _, _, _, _, q⟩ := hIX; rw [hSt] at q; exact q.2.1
      have hE := fun o => hold_done HS.out HSB.out.2.2 t0 (H0 := fun _ => False) (fun b hb => (hHC b hb).2.2.2) hDl HSJ.out.1 hIX (fun _ h => h.elim) tX hqX hC nD o
      clear hI hIx hSt hH
      gi_wp2
      refine ⟨by simp, .inl ⟨_, _, rfl, run_takeDeferred hD, ?_⟩⟩
      obtain ⟨g1, g2, Cj, g3, g4⟩ := hE (.deferred none)
      exact ⟨_, results_none rfl _ _ _, ⟨_, rfl⟩, g1, ⟨g2, HSB.out.1.caught g1 HS.out.sub HR.out.1 (fun h => HD.out _ h (.inr (.inl rfl))), HSB.out.2.1.caught g1 HS.out.sub HR.out.2 (fun h => HD.out _ h (.inr (.inr rfl)))⟩, Cj, g3, .inl (by rw [List.take_of_length_le (by omega)]; exact g4)⟩
    case stop =>
      intro c pre C X hpre hIX tX hqX hC hD nD
      rw [hIx] at hIX
      have hc : c = .ret ∧ pre <+: xs.take n := by obtain ⟨_, _, _, _, _, q⟩ := hIX; exact q
      obtain ⟨rfl, hpt⟩ := hc
      have hE := fun o => hold_done HS.out HSB.out.2.2 t0 (H0 := fun _ => False) (fun b hb => (hHC b hb).2.2.2) hDl (Both2.stb HSJ.out.1 HSJ.out.2) hIX (fun _ h => h.elim) tX hqX hC nD o
      clear hI hIx hSt hH
      gi_wp2
      refine ⟨by simp, .inl ⟨_, _, rfl, run_takeDeferred hD, ?_⟩⟩
      obtain ⟨g1, g2, Cj, g3, g4⟩ := hE (.deferred none)
      refine ⟨_, results_none rfl _ _ _, ⟨_, rfl⟩, g1, ⟨g2, HSB.out.1.caught g1 HS.out.sub HR.out.1 (fun h => HD.out _ h (.inr (.inl rfl))), HSB.out.2.1.caught g1 HS.out.sub HR.out.2 (fun h => HD.out _ h (.inr (.inr rfl)))⟩, Cj, g3, ?_⟩
      rcases g4 with g4 | ⟨g4, g5⟩
      · exact .inr ⟨pre, hpt, g4⟩
      · exact .inl (by rw [← g5]; exact g4)

end Go.Proofs.Ytjkgjckkglfokaa
