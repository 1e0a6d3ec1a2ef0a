/- tell: all of an iterator handed on. -/
import Derived.Test.YtjkgjckkglfokaaHo
namespace Go.Proofs.Ytjkgjckkglfokaa
open Go.RowKit Go.Shelf
set_option linter.unusedVariables false
attribute [local go_sem] Oper.semAt_some

theorem res_bool {fn : Func} {p : Tmp} (h : fn.results = #[.cell p 4]) (tmps : Array Value) (w : World) (b : Nat) (v : Value) (hp : tmps.getD p undef = .pointer (some ⟨b, 0, none⟩)) (hc : w.cell? ⟨b, 0, none⟩ = some v) : (results fn tmps).run Try.prog w = .ok v w := by
  have hp' : tmps[p]?.getD undef = .pointer (some ⟨b, 0, none⟩) := by simpa using hp
  simp [results, h, hp', go_sem, hc]

def TellP {α : Type} (J Jx : Inv α) (xs : List α) (T C0 : Nat → Prop) (Sq : World → Prop) (W : World) (e : Ending) (Y : World) : Prop :=
  ∃ bv : Bool, e = .returned (.bool bv) ∧ Tn (fun b => T b ∨ C0 b) W Y ∧ Sq Y ∧ ∃ C, (∀ b, C b → C0 b ∨ W.heap.size ≤ b) ∧ (bv = true → J xs C Y) ∧ (bv = false → ∃ pre, pre <+: xs ∧ Jx pre C Y)

set_option maxRecDepth 100000 in
set_option maxHeartbeats 2000000 in
theorem tell_any {gf : Nat} {lb : Array Value} {xs : List Int} {R T : Nat → Prop} {Sq : World → Prop} (hs : IsSeq Try.prog gf lb encI xs R T Sq) (eg : ∀ args w, (callFunc gf args).run Try.prog w = .ok (.enter gf args) w)
    (W : World) (l : Nat) (J Jx : Inv Int) (C0 D : Nat → Prop) (hq : Sq W) (stJ : Stb D J) (stJx : Stb D Jx) (hY : RoundOk Try.prog l encI xs J Jx) (h0 : J [] C0 W) (hd : ∀ b, C0 b → ¬ R b) (hdT : ∀ b, D b → ¬ T b) :
    CallsIn Fence.wide 0 Try.prog 93 #[.func (.func gf) #[] lb, .func (.yield l) #[] #[]] W (TellP J Jx xs T C0 Sq W) := by
  obtain ⟨W0, hW0⟩ : ∃ W0, (W.alloc (.cells #[.func (.yield l) #[] #[]] 63)).alloc (.cells #[.bool false] 4) = W0 := ⟨_, rfl⟩
  have HW0 : Hid ((W.alloc (.cells #[.func (.yield l) #[] #[]] 63)).alloc (.cells #[.bool false] 4) = W0) := hW0
  clear hW0
  have hq1 : ∀ w, (binOp .eql 50 (.func (.func gf) #[] lb) .nilFunc).run Try.prog w = .ok (.bool false) w := fun _ => by kernel_rfl
  have HY : Hid (RoundOk Try.prog l encI xs J Jx) := hY
  have HD : Hid (∀ b, C0 b → ¬ R b) := hd
  have HSJ : Hid (Stb D J ∧ Stb D Jx) := ⟨stJ, stJx⟩
  have HH0 : Hid (J [] C0 W) := h0
  have HSQ : Hid (Sq W) := hq
  have HS : Hid (IsSeq Try.prog gf lb encI xs R T Sq) := hs
  clear hY hd stJ stJx h0 hq hs
  refine callsIn_of_wp_marks Try.func93 rfl trivial ?_ rfl
  simp only [Try.ntmps93, List.size_toArray, List.length_cons, List.length_nil, Nat.reduceAdd, Nat.reduceSub, Array.replicate_succ, Array.replicate_zero, List.push_toArray, List.append_toArray, List.nil_append, List.cons_append]
  gi_wp2_with fail
  rw [HW0.out]
  have hb0 : Below W.heap.size W W0 := by rw [← HW0.out]; exact ((Below.refl _ _).alloc (Nat.le_refl _) _).alloc (by simp) _
  have t0 : Tn (fun _ => False) W W0 := Tn.of_below hb0 (Nat.le_refl _)
  have hy0 : IsC W0 W.heap.size #[.func (.yield l) #[] #[]] ∧ IsC W0 (W.heap.size + 1) #[.bool false] := by
    rw [← HW0.out]
    refine ⟨(isC_new W _ _).tn ((Tn.refl (fun _ => False) _).alloc _) (fun h => h), ?_⟩
    have := isC_new (W.alloc (.cells #[.func (.yield l) #[] #[]] 63)) #[.bool false] 4
    simpa using this
  have hs0 : W.heap.size + 1 < W0.heap.size := hy0.2.lt
  have hC0l : ∀ b, C0 b → b < W.heap.size := fun b hb => HSJ.out.1.1 _ _ _ HH0.out b (.inl hb)
  have hDl : ∀ b, D b → b < W.heap.size := fun b hb => HSJ.out.1.1 _ _ _ HH0.out b (.inr hb)
  have hRl : ∀ b, R b → b < W.heap.size := HS.out.lt _ HSQ.out
  obtain ⟨H, hH⟩ : ∃ H : Nat → Prop, H = fun b => b = W.heap.size ∨ b = W.heap.size + 1 := ⟨_, rfl⟩
  obtain ⟨St, hSt⟩ : ∃ St : World → Prop, St = fun X => IsC X W.heap.size #[.func (.yield l) #[] #[]] ∧ IsC X (W.heap.size + 1) #[.bool false] := ⟨_, rfl⟩
  obtain ⟨I, hI⟩ : ∃ I : Inv Int, I = HoldI J (fun s => s) H (fun _ X => St X) := ⟨_, rfl⟩
  obtain ⟨Ix, hIx⟩ : ∃ Ix : Code → Inv Int, Ix = fun c => HoldI Jx (fun s => s) H (fun _ X => c = .ret ∧ St X) := ⟨_, rfl⟩
  have stS : ∀ A X Y, St X → Tn A X Y → (∀ b, H b → ¬ A b) → St Y := by
    intro A X Y h ht hA
    rw [hSt] at h ⊢
    rw [hH] at hA
    exact ⟨h.1.tn ht (hA _ (.inl rfl)), h.2.tn ht (hA _ (.inr rfl))⟩
  have stI : Stb D I := by rw [hI]; exact HoldI.stb HSJ.out.1 (fun _ A X Y => stS A X Y)
  have stIx : ∀ c, Stb D (Ix c) := fun c => by rw [hIx]; exact HoldI.stb HSJ.out.2 (fun s A X Y h ht hA => ⟨h.1, stS A X Y h.2 ht hA⟩)
  have hHC : ∀ b, H b → ¬ C0 b ∧ b < W0.heap.size ∧ ¬ R b ∧ (W.heap.size ≤ b ∨ False) := by
    intro b hb
    rw [hH] at hb
    have : W.heap.size ≤ b ∧ b < W0.heap.size := by rcases hb with rfl | rfl <;> omega
    exact ⟨fun h => by have := hC0l _ h; omega, this.2, fun h => by have := hRl _ h; omega, .inl this.1⟩
  have hW : Sq W0 := HS.out.stab _ _ _ HSQ.out t0 (fun _ _ h => h)
  have h0 : I [] (fun b => C0 b ∨ H b) W0 := by
    rw [hI]
    exact ⟨C0, rfl, HSJ.out.1.2 _ _ _ _ _ HH0.out t0 (fun _ _ h => h), fun b hb => (hHC b hb).1, fun b hb => (hHC b hb).2.1, by rw [hSt]; exact hy0⟩
  refine range_it (gf := gf) (lb := lb) rfl eg (encs := encI) (fun _ => rfl) HS.out hW I Ix D stI stIx (fun b => C0 b ∨ H b) h0 (fun b hb hr => hb.elim (fun h => HD.out b h hr) (fun h => (hHC b h).2.2.1 hr)) hdT
    (fun x a' => a' = { tmps := #[.func (.func gf) #[] lb, .func (.yield l) #[] #[], undef, .pointer (some ⟨W.heap.size, 0, none⟩), .pointer (some ⟨W.heap.size + 1, 0, none⟩), .int .i64 x, .func (.func gf) #[] lb, .bool false, .func (.func gf) #[] lb, .int .i64 x, undef, undef, undef, undef], defers := [] })
    ?assign ?body ?done ?stop
  case assign =>
    intro l2 x X Kc hK
    unfold encI
    gi_wp2
    rfl
  case body =>
    rintro l3 pre x a' C X hpre hIX rfl
    obtain ⟨Cj, rfl, hJ, n1, n2, hsx⟩ := (by rw [hI] at hIX; exact hIX : HoldI J (fun s => s) H (fun _ X => St X) pre C X)
    have hsx' := hsx
    rw [hSt] at hsx
    have k2 : X.cell? ⟨W.heap.size, 0, none⟩ = some (.func (.yield l) #[] #[]) := hsx.1.cell 0
    have hX := HY.out pre x Cj X hpre hJ
    unfold encI at hX
    obtain ⟨fn, tmps, assign, body, hy2, hR⟩ := hX
    have hxl := hsx.2.lt
    have hn1 : ∀ b w, (Op.unary UnOp.not (.bool b)).run Try.prog w = .ok (.bool (!b)) w := fun b _ => by cases b <;> kernel_rfl
    have HN : Hid ((∀ b, H b → ¬ Cj b) ∧ (∀ b, H b → b < X.heap.size)) := ⟨n1, n2⟩
    have HI : Hid (I = HoldI J (fun s => s) H (fun _ X => St X) ∧ (Ix = fun c => HoldI Jx (fun s => s) H (fun _ X => c = .ret ∧ St X)) ∧ St = (fun X => IsC X W.heap.size #[.func (.yield l) #[] #[]] ∧ IsC X (W.heap.size + 1) #[.bool false]) ∧ H = fun b => b = W.heap.size ∨ b = W.heap.size + 1) := ⟨hI, hIx, hSt, hH⟩
    have HQ : Hid (St X) := hsx'
    have HSS : Hid (∀ A X Y, St X → Tn A X Y → (∀ b, H b → ¬ A b) → St Y) := stS
    clear hJ n1 n2 hIX hI hIx hSt hH stS stI stIx hHC h0 hW hsx hsx'
    gi_wp2_with fail
    refine ⟨rfl, RoundIn.mono (F := Fence.wide) hR ?_⟩
    rintro e Y ⟨C', tY, hC', hJ2⟩
    obtain ⟨bv, rfl, hJ3⟩ := yes_no hJ2
    have HS2 : Hid (St Y) := HSS.out _ _ _ HQ.out tY HN.out.1
    have d2 : IsC Y (W.heap.size + 1) #[.bool false] := by have := HS2.out; rw [HI.out.2.2.1] at this; exact this.2
    have e1 := d2.frozen 0
    have e2 : Y.cell? ⟨W.heap.size + 1, 0, none⟩ = some (.bool false) := d2.cell 0
    have e3 := d2.lt
    have HYY : Hid (Tn Cj X Y ∧ (∀ b, C' b → Cj b ∨ X.heap.size ≤ b) ∧ (bv = true → J (pre ++ [x]) C' Y) ∧ (bv = false → Jx (pre ++ [x]) C' Y)) := ⟨tY, hC', hJ3⟩
    have HD2 : Hid (IsC Y (W.heap.size + 1) #[.bool false]) := d2
    clear hJ2 hJ3 d2 tY hC' hR
    cases bv with
    | true =>
      have HG : Hid (RPost I Ix (pre ++ [x]) (fun b => Cj b ∨ H b) X .normal Y) := by
        obtain ⟨C2, g1, g2, g3⟩ := HoldI.round (J := J) (φ := fun s : List Int => s) (s := pre ++ [x]) (J' := J) (St := fun _ X => St X) HN.out.1 HN.out.2 HYY.out.1 HYY.out.2.1 (HYY.out.2.2.1 rfl) HS2.out
        exact ⟨C2, g1, g2, by rw [HI.out.1]; exact g3⟩
      gi_wp2
      exact HG.out
    | false =>
      obtain ⟨Z, hZ⟩ : ∃ Z, Y.setCell ⟨W.heap.size + 1, 0, none⟩ (.bool false) = Z := ⟨_, rfl⟩
      have HG : Hid (RPost I Ix (pre ++ [x]) (fun b => Cj b ∨ H b) X .ret Z) := by
        have tZ : Tn H Y Z := by rw [← hZ, HI.out.2.2.2]; exact (Tn.refl _ _).set (.inl (.inr rfl)) _
        have hsZ : St Z := by
          have h := HS2.out
          rw [HI.out.2.2.1] at h ⊢
          refine ⟨by rw [← hZ]; exact h.1.of_block (Below.heap_setCell _ _ _ _ (by simp)), ?_⟩
          obtain ⟨t, ht⟩ := h.2
          exact ⟨t, by rw [← hZ]; simp [World.setCell, Array.getElem?_modify, ht]⟩
        have nC' : ∀ b, H b → ¬ C' b := fun b hb hc => (HYY.out.2.1 b hc).elim (HN.out.1 b hb) (fun h => by have := HN.out.2 b hb; omega)
        refine ⟨fun b => C' b ∨ H b, (HYY.out.1.mono (fun _ _ h => .inl h)).trans tZ (fun _ _ h => .inr h), fun b hb => ?_, ?_⟩
        · rcases hb with hb | hb
          · exact (HYY.out.2.1 b hb).imp .inl id
          · exact .inl (.inr hb)
        · rw [HI.out.2.1]
          exact ⟨C', rfl, HSJ.out.2.2 _ _ _ _ _ (HYY.out.2.2.2 rfl) tZ (fun b hb h => hb.elim (nC' b h) (fun hb => by have := hDl b hb; rw [HI.out.2.2.2] at h; omega)), nC', fun b hb => Nat.lt_of_lt_of_le (HN.out.2 b hb) (Nat.le_trans HYY.out.1.size tZ.size), rfl, hsZ⟩
      have HZ : Hid (Y.setCell ⟨W.heap.size + 1, 0, none⟩ (.bool false) = Z) := hZ
      clear hZ
      gi_wp2
      rw [HZ.out]
      exact HG.out
  case done =>
    intro C X hIX tX hqX hC hD nD
    rw [hI] at hIX
    have hst : St X := by obtain ⟨_, _, _, _, _, q⟩ := hIX; exact q
    rw [hSt] at hst
    have hE := fun o => hold_done' HS.out HSQ.out t0 (H0 := fun _ => False) (fun b hb => (hHC b hb).2.2.2) hDl HSJ.out.1 hIX (fun _ h => h.elim) tX hqX hC nD o
    have e1 := hst.2.frozen 0
    have e2 : X.cell? ⟨W.heap.size + 1, 0, none⟩ = some (.bool false) := hst.2.cell 0
    have e3 := hst.2.lt
    have HST : Hid (IsC X (W.heap.size + 1) #[.bool false]) := hst.2
    have HH : Hid (H (W.heap.size + 1)) := by show H _; rw [hH]; exact .inr rfl
    clear hI hIx hSt hH hst
    gi_wp2
    have hD2 : (X.setCell ⟨W.heap.size + 1, 0, none⟩ (.bool true)).heap[W0.heap.size]? = some (.deferred (some [])) := (Below.heap_setCell _ _ _ _ (by simp; omega)).trans hD
    refine ⟨by simp, .inl ⟨_, _, rfl, run_takeDeferred hD2, ?_⟩⟩
    obtain ⟨Z, hZ⟩ : ∃ Z, (X.setCell ⟨W.heap.size + 1, 0, none⟩ (.bool true)).putObj W0.heap.size (.deferred none) = Z := ⟨_, rfl⟩
    rw [hZ]
    have cZ : IsC Z (W.heap.size + 1) #[.bool true] := by
      obtain ⟨t, ht⟩ := HST.out
      refine ⟨t, ?_⟩
      rw [← hZ]
      refine (World.putObj_heap_other (by omega)).trans ?_
      simp [World.setCell, Array.getElem?_modify, ht]
    obtain ⟨g1, g2, Cj, g3, g5, g4⟩ := hE (.deferred none)
    have tZ : Tn (fun k => k = W.heap.size + 1) (X.putObj W0.heap.size (.deferred none)) Z := by
      rw [← hZ]
      exact ⟨rfl, rfl, rfl, by simp [World.setCell], fun k hk hn => by
        by_cases e : k = W0.heap.size
        · subst e
          rw [World.putObj_heap_same (by rw [World.putObj] at hk; simpa using hk), World.putObj_heap_same (by simpa [World.setCell] using hk)]
        · rw [World.putObj_heap_other e, World.putObj_heap_other e]
          exact Below.heap_setCell _ _ _ _ (by simpa using hn)⟩
    refine ⟨_, res_bool rfl _ _ (W.heap.size + 1) _ rfl (cZ.cell 0), true, rfl, g1.trans tZ (fun i hi h => by omega), HS.out.stab _ _ _ g2 tZ (fun b hb e => by have := hRl b hb; omega), Cj, g3, fun _ => HSJ.out.1.2 _ _ _ _ _ g4 tZ (fun b hb (e : b = W.heap.size + 1) => hb.elim (fun hb => g5 _ HH.out (e ▸ hb)) (fun hb => by have := hDl b hb; omega)), fun h => by cases h⟩
  case stop =>
    intro c pre C X hpre hIX tX hqX hC hD nD
    rw [hIx] at hIX
    have hc : c = .ret ∧ St X := by obtain ⟨_, _, _, _, _, q⟩ := hIX; exact q
    obtain ⟨rfl, hst⟩ := hc
    rw [hSt] at hst
    have hE := fun o => hold_done HS.out HSQ.out t0 (H0 := fun _ => False) (fun b hb => (hHC b hb).2.2.2) hDl HSJ.out.2 hIX (fun _ h => h.elim) tX hqX hC nD o
    clear hI hIx hSt hH
    gi_wp2
    refine ⟨by simp, .inl ⟨_, _, rfl, run_takeDeferred hD, ?_⟩⟩
    obtain ⟨g1, g2, Cj, g3, g4⟩ := hE (.deferred none)
    have cZ : IsC (X.putObj W0.heap.size (.deferred none)) (W.heap.size + 1) #[.bool false] := hst.2.tn (Tn.put _ _ _) (by omega)
    exact ⟨_, res_bool rfl _ _ (W.heap.size + 1) _ rfl (cZ.cell 0), false, rfl, g1, g2, Cj, g3, fun h => (by cases h), fun _ => ⟨pre, hpre, g4⟩⟩

set_option maxRecDepth 100000 in
set_option maxHeartbeats 1000000 in
theorem tell_nil (W : World) (l : Nat) (J Jx : Inv Int) (C0 D : Nat → Prop) (stJ : Stb D J) (h0 : J [] C0 W) :
    CallsIn Fence.wide 0 Try.prog 93 #[.nilFunc, .func (.yield l) #[] #[]] W (TellP J Jx [] (fun _ => False) C0 (fun _ => True) W) := by
  have hq1 : ∀ w, (binOp .eql 50 .nilFunc .nilFunc).run Try.prog w = .ok (.bool true) w := fun _ => by kernel_rfl
  obtain ⟨W0, hW0⟩ : ∃ W0, (W.alloc (.cells #[.func (.yield l) #[] #[]] 63)).alloc (.cells #[.bool true] 4) = W0 := ⟨_, rfl⟩
  have t0 : Tn (fun _ => False) W W0 := by rw [← hW0]; exact ((Tn.refl _ _).alloc _).alloc _
  have c0 : IsC W0 (W.heap.size + 1) #[.bool true] := by
    rw [← hW0]
    have := isC_new (W.alloc (.cells #[.func (.yield l) #[] #[]] 63)) #[.bool true] 4
    simpa using this
  have HG : Hid (TellP J Jx [] (fun _ => False) C0 (fun _ => True) W (.returned (.bool true)) W0) := ⟨true, rfl, t0.mono (fun _ _ h => h.elim), trivial, C0, fun _ h => .inl h, fun _ => stJ.2 _ _ _ _ _ h0 t0 (fun _ _ h => h), fun h => by cases h⟩
  have HW : Hid ((W.alloc (.cells #[.func (.yield l) #[] #[]] 63)).alloc (.cells #[.bool true] 4) = W0) := hW0
  have HC : Hid (IsC W0 (W.heap.size + 1) #[.bool true]) := c0
  clear hW0 t0 c0 stJ h0
  refine callsIn_of_wp Try.func93 rfl trivial ?_ rfl
  simp only [Try.ntmps93, List.size_toArray, List.length_cons, List.length_nil, Nat.reduceAdd, Nat.reduceSub, Array.replicate_succ, Array.replicate_zero, List.push_toArray, List.append_toArray, List.nil_append, List.cons_append]
  gi_wp2
  rw [HW.out]
  exact bodyPost_ret (res_bool rfl _ _ (W.heap.size + 1) _ rfl (HC.out.cell 0)) rfl HG.out

end Go.Proofs.Ytjkgjckkglfokaa
