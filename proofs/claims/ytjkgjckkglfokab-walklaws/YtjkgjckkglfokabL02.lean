/- tell: all of an iterator handed on. -/
import Derived.Test.YtjkgjckkglfokabL01
namespace Go.Proofs.Ytjkgjckkglfokab
open Go.RowKit Go.Shelf
set_option linter.unusedVariables false
set_option linter.unusedSimpArgs false
attribute [local go_sem] Oper.semAt_some

theorem res_bool {fn : Func} {p : Tmp} (h : fn.results = #[.cell p 4]) (tmps : Array Value) (w : World) (b : Nat) (v : Value) (hp : tmps.getD p undef = .pointer (some ⟨b, 0, none⟩)) (hc : w.cell? ⟨b, 0, none⟩ = some v) : (results fn tmps).run Try.prog w = .ok v w := by
  have hp' : tmps[p]?.getD undef = .pointer (some ⟨b, 0, none⟩) := by simpa using hp
  simp [results, h, hp', go_sem, hc]

def TellP {α : Type} (J Jx : Inv α) (xs : List α) (T C0 : Nat → Prop) (Sq : World → Prop) (W : World) (e : Ending) (Y : World) : Prop :=
  ∃ bv : Bool, e = .returned (.bool bv) ∧ Tn (fun b => T b ∨ C0 b) W Y ∧ Sq Y ∧ ∃ C, (∀ b, C b → C0 b ∨ W.heap.size ≤ b) ∧ (bv = true → J xs C Y) ∧ (bv = false → ∃ pre, pre <+: xs ∧ Jx pre C Y)

set_option maxRecDepth 100000 in
set_option maxHeartbeats 2000000 in
theorem tell_any {gf : Nat} {lb : Array Value} {xs : List Int} {R T : Nat → Prop} {Sq : World → Prop} (hs : IsSeq Try.prog gf lb encI xs R T Sq) (eg : ∀ args w, (callFunc gf args).run Try.prog w = .ok (.enter gf args) w)
    (W : World) (l : Nat) (J Jx : Inv Int) (C0 D : Nat → Prop) (hq : Sq W) (stJ : Stb D J) (stJx : Stb D Jx) (hY : RoundOk Try.prog l encI xs J Jx) (h0 : J [] C0 W) (hd : ∀ b, C0 b → ¬ R b) (hdT : ∀ b, D b → ¬ T b) :
    CallsIn Fence.wide 0 Try.prog 32 #[.func (.func gf) #[] lb, .func (.yield l) #[] #[]] W (TellP J Jx xs T C0 Sq W) := by
  obtain ⟨W0, hW0⟩ : ∃ W0, (W.alloc (.cells #[.func (.yield l) #[] #[]] 28)).alloc (.cells #[.bool false] 4) = W0 := ⟨_, rfl⟩
  have HW0 : Hid ((W.alloc (.cells #[.func (.yield l) #[] #[]] 28)).alloc (.cells #[.bool false] 4) = W0) := hW0
  clear hW0
  have hq1 : ∀ w, (binOp .eql 25 (.func (.func gf) #[] lb) .nilFunc).run Try.prog w = .ok (.bool false) w := fun _ => by kernel_rfl
  have HY : Hid (RoundOk Try.prog l encI xs J Jx) := hY
  have HD : Hid (∀ b, C0 b → ¬ R b) := hd
  have HSJ : Hid (Stb D J ∧ Stb D Jx) := ⟨stJ, stJx⟩
  have HH0 : Hid (J [] C0 W) := h0
  have HSQ : Hid (Sq W) := hq
  have HS : Hid (IsSeq Try.prog gf lb encI xs R T Sq) := hs
  clear hY hd stJ stJx h0 hq hs
  refine callsIn_of_wp_marks Try.func32 rfl trivial ?_ rfl
  simp only [Try.ntmps32, List.size_toArray, List.length_cons, List.length_nil, Nat.reduceAdd, Nat.reduceSub, Array.replicate_succ, Array.replicate_zero, List.push_toArray, List.append_toArray, List.nil_append, List.cons_append]
  gi_wp2_with fail
  rw [HW0.out]
  have hb0 : Below W.heap.size W W0 := by rw [← HW0.out]; exact ((Below.refl _ _).alloc (Nat.le_refl _) _).alloc (by simp) _
  have t0 : Tn (fun _ => False) W W0 := Tn.of_below hb0 (Nat.le_refl _)
  have hy0 : IsC W0 W.heap.size #[.func (.yield l) #[] #[]] ∧ IsC W0 (W.heap.size + 1) #[.bool false] := by
    rw [← HW0.out]
    refine ⟨(isC_new W _ _).tn ((Tn.refl (fun _ => False) _).alloc _) (fun h => h), ?_⟩
    have := isC_new (W.alloc (.cells #[.func (.yield l) #[] #[]] 28)) #[.bool false] 4
    simpa using this
  have hs0 : W.heap.size + 1 < W0.heap.size := hy0.2.lt
  have hC0l : ∀ b, C0 b → b < W.heap.size := fun b hb => HSJ.out.1.1 _ _ _ HH0.out b (.inl hb)
  have hDl : ∀ b, D b → b < W.heap.size := fun b hb => HSJ.out.1.1 _ _ _ HH0.out b (.inr hb)
  have hRl : ∀ b, R b → b < W.heap.size := HS.out.lt _ HSQ.out
  obtain ⟨H, hH⟩ : ∃ H : Nat → Prop, H = fun b => b = W.heap.size ∨ b = W.heap.size + 1 := ⟨_, rfl⟩
  obtain ⟨St, hSt⟩ : ∃ St : World → Prop, St = fun X => IsC X W.heap.size #[.func (.yield l) #[] #[]] ∧ IsC X (W.heap.size + 1) #[.bool false] := ⟨_, rfl⟩
  obtain ⟨I, hI⟩ : ∃ I : Inv Int, I = HoldI J (fun s => s) H (fun _ X => St X) := ⟨_, rfl⟩
  obtain ⟨Ix, hIx⟩ : ∃ Ix : Code → Inv Int, Ix = fun c => HoldI Jx (fun s => s) H (fun _ X => c = .ret ∧ St X) := ⟨_, rfl⟩
  have stS : ∀ A X Y, St X → Tn A X Y → (∀ b, H b → ¬ A b) → St Y := by
    intro A X Y h ht hA
    rw [hSt] at h ⊢
    rw [hH] at hA
    exact ⟨h.1.tn ht (hA _ (.inl rfl)), h.2.tn ht (hA _ (.inr rfl))⟩
  have stI : Stb D I := by rw [hI]; exact HoldI.stb HSJ.out.1 (fun _ A X Y => stS A X Y)
  have stIx : ∀ c, Stb D (Ix c) := fun c => by rw [hIx]; exact HoldI.stb HSJ.out.2 (fun s A X Y h ht hA => ⟨h.1, stS A X Y h.2 ht hA⟩)
  have hHC : ∀ b, H b → ¬ C0 b ∧ b < W0.heap.size ∧ ¬ R b ∧ (W.heap.size ≤ b ∨ False) := by
    intro b hb
    rw [hH] at hb
    have : W.heap.size ≤ b ∧ b < W0.heap.size := by rcases hb with rfl | rfl <;> omega
    exact ⟨fun h => by have := hC0l _ h; omega, this.2, fun h => by have := hRl _ h; omega, .inl this.1⟩
  have hW : Sq W0 := HS.out.stab _ _ _ HSQ.out t0 (fun _ _ h => h)
  have h0 : I [] (fun b => C0 b ∨ H b) W0 := by
    rw [hI]
    exact ⟨C0, rfl, HSJ.out.1.2 _ _ _ _ _ HH0.out t0 (fun _ _ h => h), fun b hb => (hHC b hb).1, fun b hb => (hHC b hb).2.1, by rw [hSt]; exact hy0⟩
  refine range_it (gf := gf) (lb := lb) rfl eg (encs := encI) (fun _ => rfl) HS.out hW I Ix D stI stIx (fun b => C0 b ∨ H b) h0 (fun b hb hr => hb.elim (fun h => HD.out b h hr) (fun h => (hHC b h).2.2.1 hr)) hdT
    (fun x a' => a' = { tmps := #[.func (.func gf) #[] lb, .func (.yield l) #[] #[], undef, .pointer (some ⟨W.heap.size, 0, none⟩), .pointer (some ⟨W.heap.size + 1, 0, none⟩), .int .i64 x, .func (.func gf) #[] lb, .bool false, .func (.func gf) #[] lb, .int .i64 x, undef, undef, undef, undef], defers := [] })
    ?assign ?body ?done ?stop
  case assign =>
    intro l2 x X Kc hK
    unfold encI
    gi_wp2
    rfl
  case body =>
    rintro l3 pre x a' C X hpre hIX rfl
    obtain ⟨Cj, rfl, hJ, n1, n2, hsx⟩ := (by rw [hI] at hIX; exact hIX : HoldI J (fun s => s) H (fun _ X => St X) pre C X)
    have hsx' := hsx
    rw [hSt] at hsx
    have k2 : X.cell? ⟨W.heap.size, 0, none⟩ = some (.func (.yield l) #[] #[]) := hsx.1.cell 0
    have hX := HY.out pre x Cj X hpre hJ
    unfold encI at hX
    obtain ⟨fn, tmps, assign, body, hy2, hR⟩ := hX
    have hxl := hsx.2.lt
    have hn1 : ∀ b w, (Op.unary UnOp.not (.bool b)).run Try.prog w = .ok (.bool (!b)) w := fun b _ => by cases b <;> kernel_rfl
    have HN : Hid ((∀ b, H b → ¬ Cj b) ∧ (∀ b, H b → b < X.heap.size)) := ⟨n1, n2⟩
    have HI : Hid (I = HoldI J (fun s => s) H (fun _ X => St X) ∧ (Ix = fun c => HoldI Jx (fun s => s) H (fun _ X => c = .ret ∧ St X)) ∧ St = (fun X => IsC X W.heap.size #[.func (.yield l) #[] #[]] ∧ IsC X (W.heap.size + 1) #[.bool false]) ∧ H = fun b => b = W.heap.size ∨ b = W.heap.size + 1) := ⟨hI, hIx, hSt, hH⟩
    have HQ : Hid (St X) := hsx'
    have HSS : Hid (∀ A X Y, St X → Tn A X Y → (∀ b, H b → ¬ A b) → St Y) := stS
    clear hJ n1 n2 hIX hI hIx hSt hH stS stI stIx hHC h0 hW hsx hsx'
    gi_wp2_with fail
    refine ⟨rfl, RoundIn.mono (F := Fence.wide) hR ?_⟩
    rintro e Y ⟨C', tY, hC', hJ2⟩
    obtain ⟨bv, rfl, hJ3⟩ := yes_no hJ2
    have HS2 : Hid (St Y) := HSS.out _ _ _ HQ.out tY HN.out.1
    have d2 : IsC Y (W.heap.size + 1) #[.bool false] := by have := HS2.out; rw [HI.out.2.2.1] at this; exact this.2
    have e1 := d2.frozen 0
    have e2 : Y.cell? ⟨W.heap.size + 1, 0, none⟩ = some (.bool false) := d2.cell 0
    have e3 := d2.lt
    have HYY : Hid (Tn Cj X Y ∧ (∀ b, C' b → Cj b ∨ X.heap.size ≤ b) ∧ (bv = true → J (pre ++ [x]) C' Y) ∧ (bv = false → Jx (pre ++ [x]) C' Y)) := ⟨tY, hC', hJ3⟩
    have HD2 : Hid (IsC Y (W.heap.size + 1) #[.bool false]) := d2
    clear hJ2 hJ3 d2 tY hC' hR
    cases bv with
    | true =>
      have HG : Hid (RPost I Ix (pre ++ [x]) (fun b => Cj b ∨ H b) X .normal Y) := by
        obtain ⟨C2, g1, g2, g3⟩ := HoldI.round (J := J) (φ := fun s : List Int => s) (s := pre ++ [x]) (J' := J) (St := fun _ X => St X) HN.out.1 HN.out.2 HYY.out.1 HYY.out.2.1 (HYY.out.2.2.1 rfl) HS2.out
        exact ⟨C2, g1, g2, by rw [HI.out.1]; exact g3⟩
      gi_wp2
      exact HG.out
    | false =>
      obtain ⟨Z, hZ⟩ : ∃ Z, Y.setCell ⟨W.heap.size + 1, 0, none⟩ (.bool false) = Z := ⟨_, rfl⟩
      have HG : Hid (RPost I Ix (pre ++ [x]) (fun b => Cj b ∨ H b) X .ret Z) := by
        have tZ : Tn H Y Z := by rw [← hZ, HI.out.2.2.2]; exact (Tn.refl _ _).set (.inl (.inr rfl)) _
        have hsZ : St Z := by
          have h := HS2.out
          rw [HI.out.2.2.1] at h ⊢
          refine ⟨by rw [← hZ]; exact h.1.of_block (Below.heap_setCell _ _ _ _ (by simp)), ?_⟩
          obtain ⟨t, ht⟩ := h.2
          exact ⟨t, by rw [← hZ]; simp [World.setCell, Array.getElem?_modify, ht]⟩
        have nC' : ∀ b, H b → ¬ C' b := fun b hb hc => (HYY.out.2.1 b hc).elim (HN.out.1 b hb) (fun h => by have := HN.out.2 b hb; omega)
        refine ⟨fun b => C' b ∨ H b, (HYY.out.1.mono (fun _ _ h => .inl h)).trans tZ (fun _ _ h => .inr h), fun b hb => ?_, ?_⟩
        · rcases hb with hb | hb
          · exact (HYY.out.2.1 b hb).imp .inl id
          · exact .inl (.inr hb)
        · rw [HI.out.2.1]
          exact ⟨C', rfl, HSJ.out.2.2 _ _ _ _ _ (HYY.out.2.2.2 rfl) tZ (fun b hb h => hb.elim (nC' b h) (fun hb => by have := hDl b hb; rw [HI.out.2.2.2] at h; omega)), nC', fun b hb => Nat.lt_of_lt_of_le (HN.out.2 b hb) (Nat.le_trans HYY.out.1.size tZ.size), rfl, hsZ⟩
      have HZ : Hid (Y.setCell ⟨W.heap.size + 1, 0, none⟩ (.bool false) = Z) := hZ
      clear hZ
      gi_wp2
      rw [HZ.out]
      exact HG.out
  case done =>
    intro C X hIX tX hqX hC hD nD
    rw [hI] at hIX
    have hst : St X := by obtain ⟨_, _, _, _, _, q⟩ := hIX; exact q
    rw [hSt] at hst
    have hE := fun o => hold_done' HS.out HSQ.out t0 (H0 := fun _ => False) (fun b hb => (hHC b hb).2.2.2) hDl HSJ.out.1 hIX (fun _ h => h.elim) tX hqX hC nD o
    have e1 := hst.2.frozen 0
    have e2 : X.cell? ⟨W.heap.size + 1, 0, none⟩ = some (.bool false) := hst.2.cell 0
    have e3 := hst.2.lt
    have HST : Hid (IsC X (W.heap.size + 1) #[.bool false]) := hst.2
    have HH : Hid (H (W.heap.size + 1)) := by show H _; rw [hH]; exact .inr rfl
    clear hI hIx hSt hH hst
    gi_wp2
    have hD2 : (X.setCell ⟨W.heap.size + 1, 0, none⟩ (.bool true)).heap[W0.heap.size]? = some (.deferred (some [])) := (Below.heap_setCell _ _ _ _ (by simp; omega)).trans hD
    refine ⟨by simp, .inl ⟨_, _, rfl, run_takeDeferred hD2, ?_⟩⟩
    obtain ⟨Z, hZ⟩ : ∃ Z, (X.setCell ⟨W.heap.size + 1, 0, none⟩ (.bool true)).putObj W0.heap.size (.deferred none) = Z := ⟨_, rfl⟩
    rw [hZ]
    have cZ : IsC Z (W.heap.size + 1) #[.bool true] := by
      obtain ⟨t, ht⟩ := HST.out
      refine ⟨t, ?_⟩
      rw [← hZ]
      refine (World.putObj_heap_other (by omega)).trans ?_
      simp [World.setCell, Array.getElem?_modify, ht]
    obtain ⟨g1, g2, Cj, g3, g5, g4⟩ := hE (.deferred none)
    have tZ : Tn (fun k => k = W.heap.size + 1) (X.putObj W0.heap.size (.deferred none)) Z := by
      rw [← hZ]
      exact ⟨rfl, rfl, rfl, by simp [World.setCell], fun k hk hn => by
        by_cases e : k = W0.heap.size
        · subst e
          rw [World.putObj_heap_same (by rw [World.putObj] at hk; simpa using hk), World.putObj_heap_same (by simpa [World.setCell] using hk)]
        · rw [World.putObj_heap_other e, World.putObj_heap_other e]
          exact Below.heap_setCell _ _ _ _ (by simpa using hn)⟩
    refine ⟨_, res_bool rfl _ _ (W.heap.size + 1) _ rfl (cZ.cell 0), true, rfl, g1.trans tZ (fun i hi h => by omega), HS.out.stab _ _ _ g2 tZ (fun b hb e => by have := hRl b hb; omega), Cj, g3, fun _ => HSJ.out.1.2 _ _ _ _ _ g4 tZ (fun b hb (e : b = W.heap.size + 1) => hb.elim (fun hb => g5 _ HH.out (e ▸ hb)) (fun hb => by have := hDl b hb; omega)), fun h => by cases h⟩
  case stop =>
    intro c pre C X hpre hIX tX hqX hC hD nD
    rw [hIx] at hIX
    have hc : c = .ret ∧ St X := by obtain ⟨_, _, _, _, _, q⟩ := hIX; exact q
    obtain ⟨rfl, hst⟩ := hc
    rw [hSt] at hst
    have hE := fun o => hold_done HS.out HSQ.out t0 (H0 := fun _ => False) (fun b hb => (hHC b hb).2.2.2) hDl HSJ.out.2 hIX (fun _ h => h.elim) tX hqX hC nD o
    clear hI hIx hSt hH
    gi_wp2
    refine ⟨by simp, .inl ⟨_, _, rfl, run_takeDeferred hD, ?_⟩⟩
    obtain ⟨g1, g2, Cj, g3, g4⟩ := hE (.deferred none)
    have cZ : IsC (X.putObj W0.heap.size (.deferred none)) (W.heap.size + 1) #[.bool false] := hst.2.tn (Tn.put _ _ _) (by omega)
    exact ⟨_, res_bool rfl _ _ (W.heap.size + 1) _ rfl (cZ.cell 0), false, rfl, g1, g2, Cj, g3, fun h => (by cases h), fun _ => ⟨pre, hpre, g4⟩⟩

end Go.Proofs.Ytjkgjckkglfokab

/- Flat. -/
namespace Go.Proofs.Ytjkgjckkglfokab
open Go.RowKit Go.Shelf
set_option linter.unusedVariables false
set_option linter.unusedSimpArgs false
attribute [local go_sem] Oper.semAt_some

/-- What tell leaves, whatever iterator it was. -/
def TellX {α : Type} (J Jx : Inv α) (xs : List α) (C0 : Nat → Prop) (N : Nat) (W : World) (e : Ending) (Y : World) : Prop :=
  ∃ bv : Bool, e = .returned (.bool bv) ∧ Tn (fun b => N ≤ b ∨ C0 b) W Y ∧ ∃ C, (∀ b, C b → C0 b ∨ W.heap.size ≤ b) ∧ (bv = true → J xs C Y) ∧ (bv = false → ∃ pre, pre <+: xs ∧ Jx pre C Y)
/-- A function that answers iterators. -/
structure IsFlat (P : Program) (mf : Nat) (ml : Array Value) (ys : Int → List Int) (R : Nat → Prop) (S : World → Prop) : Prop where
  ent : ∀ args w, (callFunc mf args).run P w = .ok (.enter mf args) w
  lt : ∀ W, S W → ∀ b, R b → b < W.heap.size
  stab : ∀ W W' A, S W → Tn A W W' → (∀ b, R b → ¬ A b) → S W'
  call : ∀ W x, S W → Calls P mf (#[.int .i64 x] ++ ml) W fun e W' => ∃ v, e = .returned v ∧ Below W.heap.size W W' ∧ ∀ l (J Jx : Inv Int) C0 D, Stb D J → Stb D Jx → RoundOk P l encI (ys x) J Jx → J [] C0 W' → (∀ b, C0 b ∨ D b → b < W.heap.size) → (∀ b, C0 b → ¬ R b) → CallsIn Fence.wide 0 P 32 #[v, .func (.yield l) #[] #[]] W' (TellX J Jx (ys x) C0 W.heap.size W')

theorem flat_pre {ys : Int → List Int} {pre xs s : List Int} {x : Int} (h : pre ++ [x] <+: xs) (hs : s <+: ys x) : pre.flatMap ys ++ s <+: xs.flatMap ys := by
  obtain ⟨t, rfl⟩ := h
  rw [List.flatMap_append, List.flatMap_append, List.append_assoc]
  simp only [List.flatMap_cons, List.flatMap_nil, List.append_nil]
  rw [List.prefix_append_right_inj]
  exact hs.trans (List.prefix_append _ _)
/-- From here on. -/
def Sh {α : Type} (J : Inv α) (base : List α) : Inv α := fun s C X => J (base ++ s) C X
theorem Sh.stb {α : Type} {J : Inv α} {D : Nat → Prop} (h : Stb D J) (base : List α) : Stb D (Sh J base) := ⟨fun _ _ _ hj => h.1 _ _ _ hj, fun _ _ _ _ _ hj => h.2 _ _ _ _ _ hj⟩
theorem Sh.round {α : Type} {P : Program} {l : Nat} {encs : α → Array Value} {xs ys base : List α} {J Jx : Inv α} (h : RoundOk P l encs xs J Jx) (hb : ∀ s, s <+: ys → base ++ s <+: xs) : RoundOk P l encs ys (Sh J base) (Sh Jx base) := by
  intro pre x C X hp hj
  have := h (base ++ pre) x C X (by rw [List.append_assoc]; exact hb _ hp) hj
  simpa [Sh, List.append_assoc] using this

set_option maxRecDepth 100000 in
set_option maxHeartbeats 2000000 in
theorem flat_seq {gf : Nat} {lb : Array Value} {xs : List Int} {R T : Nat → Prop} {Sq : World → Prop} (hs : IsSeq Try.prog gf lb encI xs R T Sq) (eg : ∀ args w, (callFunc gf args).run Try.prog w = .ok (.enter gf args) w) {sb mb mf : Nat} {ml : Array Value} {f : Int → List Int} {Rm : Nat → Prop} {Sm : World → Prop} (hm : IsFlat Try.prog mf ml f Rm Sm)
    (h1 : ¬ R sb) (h2 : ¬ R mb) (h3 : ∀ b, Rm b → ¬ R b) :
    IsSeq Try.prog 31 #[.pointer (some ⟨sb, 0, none⟩), .pointer (some ⟨mb, 0, none⟩)] encI (xs.flatMap f) (fun b => R b ∨ b = sb ∨ b = mb ∨ Rm b) T (fun W => Sq W ∧ IsC W sb #[.func (.func gf) #[] lb] ∧ IsC W mb #[.func (.func mf) #[] ml] ∧ Sm W) := by
  refine ⟨fun b hb => .inl (hs.sub b hb), fun W h b hb => ?_, fun W W' A h ht hA => ⟨hs.stab _ _ _ h.1 ht (fun b hb => hA b (.inl hb)), h.2.1.tn ht (hA _ (.inr (.inl rfl))), h.2.2.1.tn ht (hA _ (.inr (.inr (.inl rfl)))), hm.stab _ _ _ h.2.2.2 ht (fun b hb => hA b (.inr (.inr (.inr hb))))⟩, ?_⟩
  · rcases hb with hb | rfl | rfl | hb
    · exact hs.lt _ h.1 b hb
    · exact h.2.1.lt
    · exact h.2.2.1.lt
    · exact hm.lt _ h.2.2.2 b hb
  · rintro W l J Jx C0 D ⟨hq, hsb, hmb, hsm⟩ stJ stJx hY h0 hd hdT
    have a1 : W.cell? ⟨sb, 0, none⟩ = some (.func (.func gf) #[] lb) := hsb.cell 0
    have a2 : W.cell? ⟨mb, 0, none⟩ = some (.func (.func mf) #[] ml) := hmb.cell 0
    have l1 := hsb.lt
    have l2 := hmb.lt
    obtain ⟨W0, hW0⟩ : ∃ W0, W.alloc (.cells #[.func (.yield l) #[] #[]] 28) = W0 := ⟨_, rfl⟩
    have HW0 : Hid (W.alloc (.cells #[.func (.yield l) #[] #[]] 28) = W0) := hW0
    clear hW0
    have hq1 : ∀ w, (binOp .eql 25 (.func (.func gf) #[] lb) .nilFunc).run Try.prog w = .ok (.bool false) w := fun _ => by kernel_rfl
    have hq2 : ∀ w, (binOp .eql 29 (.func (.func mf) #[] ml) .nilFunc).run Try.prog w = .ok (.bool false) w := fun _ => by kernel_rfl
    have HY : Hid (RoundOk Try.prog l encI (xs.flatMap f) J Jx) := hY
    have HD : Hid (∀ b, C0 b → ¬ (R b ∨ b = sb ∨ b = mb ∨ Rm b)) := hd
    have HSJ : Hid (Stb D J ∧ Stb D Jx) := ⟨stJ, stJx⟩
    have HH0 : Hid (J [] C0 W) := h0
    have HSB : Hid (IsC W sb #[.func (.func gf) #[] lb] ∧ IsC W mb #[.func (.func mf) #[] ml] ∧ Sm W ∧ Sq W) := ⟨hsb, hmb, hsm, hq⟩
    have HS : Hid (IsSeq Try.prog gf lb encI xs R T Sq) := hs
    have HM : Hid (IsFlat Try.prog mf ml f Rm Sm) := hm
    have HR : Hid (¬ R sb ∧ ¬ R mb ∧ ∀ b, Rm b → ¬ R b) := ⟨h1, h2, h3⟩
    have HDT : Hid (∀ b, D b → ¬ T b) := hdT
    clear hdT hY hd stJ stJx h0 hsb hmb hsm hq hs hm h1 h2 h3
    refine callsIn_of_wp_marks Try.func31 rfl trivial ?_ rfl
    simp only [Try.ntmps31, List.size_toArray, List.length_cons, List.length_nil, Nat.reduceAdd, Nat.reduceSub, Array.replicate_succ, Array.replicate_zero, List.push_toArray, List.append_toArray, List.nil_append, List.cons_append]
    gi_wp2_with fail
    rw [HW0.out]
    have hb0 : Below W.heap.size W W0 := by rw [← HW0.out]; exact (Below.refl _ _).alloc (Nat.le_refl _) _
    have t0 : Tn (fun _ => False) W W0 := Tn.of_below hb0 (Nat.le_refl _)
    have hy0 : IsC W0 W.heap.size #[.func (.yield l) #[] #[]] := by rw [← HW0.out]; exact isC_new _ _ _
    have hs0 : W.heap.size < W0.heap.size := hy0.lt
    have hC0l : ∀ b, C0 b → b < W.heap.size := fun b hb => HSJ.out.1.1 _ _ _ HH0.out b (.inl hb)
    have hDl : ∀ b, D b → b < W.heap.size := fun b hb => HSJ.out.1.1 _ _ _ HH0.out b (.inr hb)
    have hRl : ∀ b, R b → b < W.heap.size := HS.out.lt _ HSB.out.2.2.2
    have hRml : ∀ b, Rm b → b < W.heap.size := HM.out.lt _ HSB.out.2.2.1
    have hml : ∀ b, (b = mb ∨ Rm b) → b < W.heap.size := fun b hb => hb.elim (fun e => e ▸ l2) (hRml b)
    obtain ⟨H, hH⟩ : ∃ H : Nat → Prop, H = fun b => b = W.heap.size ∨ b = mb ∨ Rm b := ⟨_, rfl⟩
    obtain ⟨St, hSt⟩ : ∃ St : World → Prop, St = fun X => (∀ b, (b = mb ∨ Rm b) → X.heap[b]? = W.heap[b]?) ∧ IsC X W.heap.size #[.func (.yield l) #[] #[]] ∧ Sm X := ⟨_, rfl⟩
    obtain ⟨I, hI⟩ : ∃ I : Inv Int, I = HoldI J (fun s => s.flatMap f) H (fun _ X => St X) := ⟨_, rfl⟩
    obtain ⟨Ix, hIx⟩ : ∃ Ix : Code → Inv Int, Ix = fun c => HoldI (fun (_ : List Int) C X => ∃ t, t <+: xs.flatMap f ∧ Jx t C X) (fun s => s.flatMap f) H (fun _ X => c = .ret ∧ St X) := ⟨_, rfl⟩
    have stS : ∀ A X Y, St X → Tn A X Y → (∀ b, H b → ¬ A b) → St Y := by
      intro A X Y h ht hA
      rw [hSt] at h ⊢
      rw [hH] at hA
      exact ⟨fun b hb => ht.same (h.1 b hb) (hml b hb) (hA b (.inr hb)), h.2.1.tn ht (hA _ (.inl rfl)), HM.out.stab _ _ _ h.2.2 ht (fun b hb => hA b (.inr (.inr hb)))⟩
    have HXJ : Hid (Stb D (fun (_ : List Int) C X => ∃ t, t <+: xs.flatMap f ∧ Jx t C X)) := ⟨fun _ _ _ h => by obtain ⟨t, -, h⟩ := h; exact HSJ.out.2.1 _ _ _ h, fun _ _ _ _ _ h ht hA => by obtain ⟨t, h1, h⟩ := h; exact ⟨t, h1, HSJ.out.2.2 _ _ _ _ _ h ht hA⟩⟩
    have stI : Stb D I := by rw [hI]; exact HoldI.stb HSJ.out.1 (fun s A X Y h ht hA => stS A X Y h ht hA)
    have stIx : ∀ c, Stb D (Ix c) := fun c => by rw [hIx]; exact HoldI.stb HXJ.out (fun s A X Y h ht hA => ⟨h.1, stS A X Y h.2 ht hA⟩)
    have hSt0 : St W0 := by
      rw [hSt]
      exact ⟨fun b hb => t0.block b (hml b hb) (fun h => h), hy0, HM.out.stab _ _ _ HSB.out.2.2.1 t0 (fun _ _ h => h)⟩
    have hHC : ∀ b, H b → ¬ C0 b ∧ b < W0.heap.size ∧ ¬ R b ∧ (W.heap.size ≤ b ∨ (b = mb ∨ Rm b)) := by
      intro b hb
      rw [hH] at hb
      rcases hb with rfl | rfl | hb
      · exact ⟨fun h => by have := hC0l _ h; omega, hs0, fun h => by have := hRl _ h; omega, .inl (Nat.le_refl _)⟩
      · exact ⟨fun h => HD.out _ h (.inr (.inr (.inl rfl))), by omega, HR.out.2.1, .inr (.inl rfl)⟩
      · exact ⟨fun h => HD.out _ h (.inr (.inr (.inr hb))), by have := hRml b hb; omega, HR.out.2.2 b hb, .inr (.inr hb)⟩
    have hW : Sq W0 := HS.out.stab _ _ _ HSB.out.2.2.2 t0 (fun _ _ h => h)
    have h0 : I [] (fun b => C0 b ∨ H b) W0 := by
      rw [hI]
      exact ⟨C0, rfl, HSJ.out.1.2 _ _ _ _ _ HH0.out t0 (fun _ _ h => h), fun b hb => (hHC b hb).1, fun b hb => (hHC b hb).2.1, hSt0⟩
    refine range_it (gf := gf) (lb := lb) rfl eg (encs := encI) (fun _ => rfl) HS.out hW I Ix D stI stIx (fun b => C0 b ∨ H b) h0 (fun b hb hr => hb.elim (fun h => HD.out b h (.inl hr)) (fun h => (hHC b h).2.2.1 hr)) HDT.out
      (fun x a' => a' = { tmps := #[.func (.yield l) #[] #[], .pointer (some ⟨sb, 0, none⟩), .pointer (some ⟨mb, 0, none⟩), .pointer (some ⟨W.heap.size, 0, none⟩), .int .i64 x, .func (.func gf) #[] lb, .bool false, .bool false, .func (.func mf) #[] ml, .bool false, .bool false, .func (.func gf) #[] lb, .int .i64 x, undef, undef, undef, undef, undef, undef], defers := [] })
      ?assign ?body ?done ?stop
    case assign =>
      intro l2 x X Kc hK
      unfold encI
      gi_wp2
      rfl
    case body =>
      rintro l3 pre x a' C X hpre hIX rfl
      obtain ⟨Cj, rfl, hJ, n1, n2, hsx⟩ := (by rw [hI] at hIX; exact hIX : HoldI J (fun s => s.flatMap f) H (fun _ X => St X) pre C X)
      have hsx' := hsx
      rw [hSt] at hsx
      have k1 : X.drew.cell? ⟨mb, 0, none⟩ = some (.func (.func mf) #[] ml) := (HSB.out.2.1.of_block (hsx.1 mb (.inl rfl))).cell 0
      have k2 : X.drew.cell? ⟨W.heap.size, 0, none⟩ = some (.func (.yield l) #[] #[]) := hsx.2.1.cell 0
      have hxl := hsx.2.1.lt
      have tD : Tn (fun _ => False) X X.drew := (Tn.refl _ _).drew
      have hcall := HM.out.call X.drew x (HM.out.stab _ _ _ hsx.2.2 tD (fun _ _ h => h))
      have em := HM.out.ent
      have hn1 : ∀ b w, (Op.unary UnOp.not (.bool b)).run Try.prog w = .ok (.bool (!b)) w := fun b _ => by cases b <;> kernel_rfl
      have HP : Hid (pre ++ [x] <+: xs) := hpre
      have HJ : Hid (J (pre.flatMap f) Cj X.drew) := HSJ.out.1.2 _ _ _ _ _ hJ tD (fun _ _ h => h)
      have HN : Hid ((∀ b, H b → ¬ Cj b) ∧ ∀ b, H b → b < X.heap.size) := ⟨n1, n2⟩
      have HQ : Hid (St X.drew) := stS _ _ _ hsx' tD (fun _ _ h => h)
      have HI : Hid (I = HoldI J (fun s => s.flatMap f) H (fun _ X => St X) ∧ Ix = fun c => HoldI (fun (_ : List Int) C X => ∃ t, t <+: xs.flatMap f ∧ Jx t C X) (fun s => s.flatMap f) H (fun _ X => c = .ret ∧ St X)) := ⟨hI, hIx⟩
      have HSS : Hid (∀ A X Y, St X → Tn A X Y → (∀ b, H b → ¬ A b) → St Y) := stS
      have HF : Hid ((pre ++ [x]).flatMap f = pre.flatMap f ++ f x) := by show _ = _; simp
      have HRH : Hid (∀ b, Rm b → H b) := fun b hb => by rw [hH]; exact .inr (.inr hb)
      clear hpre hJ n1 n2 hsx hsx' hIX hI hIx hSt hH stS stI stIx hSt0 hHC h0 hW
      have hmo : Try.prog.follows Departure.mixedOrders = true := by kernel_rfl
      have tok0 : True := trivial
      have tok1 : True := trivial
      gi_wp2_with fail
      gi_region_with_o (first
        | (have _t := tok0; refine ⟨trivial, rfl, CallsIn.mono (F := Fence.wide) (callsIn_wide.2 hcall) ?_⟩; rintro e X1 ⟨v, rfl, hb1, htl⟩; have k3 : X1.cell? ⟨W.heap.size, 0, none⟩ = some (.func (.yield l) #[] #[]) := (hb1.cell (p := ⟨W.heap.size, 0, none⟩) hxl).trans k2; have HT1 : Hid (Tn (fun _ => False) X.drew X1) := Tn.of_below hb1 (Nat.le_refl _); have HS1 : Hid (St X1) := HSS.out _ _ _ HQ.out HT1.out (fun _ _ h => h); have HJ1 : Hid (J (pre.flatMap f) Cj X1) := HSJ.out.1.2 _ _ _ _ _ HJ.out HT1.out (fun _ _ h => h); have hl1 : W.heap.size < X1.heap.size := Nat.lt_of_lt_of_le hxl HT1.out.size; have htell := htl l (Sh J (pre.flatMap f)) (Sh Jx (pre.flatMap f)) Cj D (Sh.stb HSJ.out.1 _) (Sh.stb HSJ.out.2 _) (Sh.round HY.out (fun s hs => flat_pre HP.out hs)) (by show J (pre.flatMap f ++ []) Cj X1; rw [List.append_nil]; exact HJ1.out) (HSJ.out.1.1 _ _ _ HJ.out) (fun b hb hr => HN.out.1 b (HRH.out b hr) hb); clear tok0 _t hb1 hcall k1 htl)
        | (have _t := tok1; refine ⟨trivial, rfl, CallsIn.mono (F := Fence.wide) htell ?_⟩; rintro e Y ⟨bv, rfl, tY, C', hC', hJ3⟩; have HR3 : Hid (Tn (fun b => X.heap.size ≤ b ∨ Cj b) X1 Y ∧ (∀ b, C' b → Cj b ∨ X1.heap.size ≤ b) ∧ (bv = true → J (pre.flatMap f ++ f x) C' Y) ∧ (bv = false → ∃ s, s <+: f x ∧ Jx (pre.flatMap f ++ s) C' Y)) := ⟨tY, hC', hJ3⟩; clear tok1 _t hJ3 tY hC' htell))
      all_goals (
        have HN1 : Hid (∀ b, H b → b < X1.heap.size) := fun b hb => Nat.lt_of_lt_of_le (HN.out.2 b hb) HT1.out.size
        have HTY : Hid (Tn Cj X Y) := ((Tn.refl Cj X).drew.trans HT1.out (fun _ _ h => h.elim)).trans HR3.out.1 (fun i hi h => h.elim (fun h => by omega) id)
        have HCY : Hid (∀ b, C' b → Cj b ∨ X.heap.size ≤ b) := fun b hb => (HR3.out.2.1 b hb).imp id (Nat.le_trans HT1.out.size)
        have HSY : Hid (St Y) := HSS.out _ _ _ HS1.out HR3.out.1 (fun b hb h => h.elim (fun h => by have := HN.out.2 b hb; omega) (HN.out.1 b hb))
        cases bv with
        | true =>
          have HG : Hid (RPost I Ix (pre ++ [x]) (fun b => Cj b ∨ H b) X .normal Y) := by
            obtain ⟨C2, g1, g2, g3⟩ := HoldI.round (J := J) (φ := fun s : List Int => s.flatMap f) (s := pre ++ [x]) (J' := J) (St := fun _ X => St X) HN.out.1 HN.out.2 HTY.out HCY.out (by rw [HF.out]; exact HR3.out.2.2.1 rfl) HSY.out
            exact ⟨C2, g1, g2, by rw [HI.out.1]; exact g3⟩
          clear HR3
          gi_wp2
          exact HG.out
        | false =>
          have HG : Hid (RPost I Ix (pre ++ [x]) (fun b => Cj b ∨ H b) X .ret Y) := by
            obtain ⟨s, hs1, hs2⟩ := HR3.out.2.2.2 rfl
            obtain ⟨C2, g1, g2, g3⟩ := HoldI.round (J := J) (φ := fun t : List Int => t) (s := pre.flatMap f ++ s) (J' := Jx) (St := fun _ X => St X) HN.out.1 HN.out.2 HTY.out HCY.out hs2 HSY.out
            refine ⟨C2, g1, g2, ?_⟩
            rw [HI.out.2]
            obtain ⟨Cq, q1, q2, q3, q4, q5⟩ := g3
            exact ⟨Cq, q1, ⟨_, flat_pre HP.out hs1, q2⟩, q3, q4, rfl, q5⟩
          clear HR3
          gi_wp2
          exact HG.out)
    case done =>
      intro C X hIX tX hqX hC hD nD
      rw [hI] at hIX
      have hE := fun o => hold_done HS.out HSB.out.2.2.2 t0 (H0 := fun b => b = mb ∨ Rm b) (fun b hb => (hHC b hb).2.2.2) hDl HSJ.out.1 hIX (by obtain ⟨_, _, _, _, _, q⟩ := hIX; rw [hSt] at q; exact q.1) tX hqX hC nD o
      have hsm : Sm X := by obtain ⟨_, _, _, _, _, q⟩ := hIX; rw [hSt] at q; exact q.2.2
      clear hI hIx hSt hH
      gi_wp2
      refine ⟨by simp, .inl ⟨_, _, rfl, run_takeDeferred hD, ?_⟩⟩
      obtain ⟨g1, g2, Cj, g3, g4⟩ := hE (.deferred none)
      exact ⟨_, results_none rfl _ _ _, ⟨_, rfl⟩, g1, ⟨g2, HSB.out.1.caught g1 HS.out.sub HR.out.1 (fun h => HD.out _ h (.inr (.inl rfl))), HSB.out.2.1.caught g1 HS.out.sub HR.out.2.1 (fun h => HD.out _ h (.inr (.inr (.inl rfl)))), HM.out.stab _ _ _ hsm (Tn.put _ _ _) (fun b hb e => by have := hRml b hb; omega)⟩, Cj, g3, .inl g4⟩
    case stop =>
      intro c pre C X hpre hIX tX hqX hC hD nD
      rw [hIx] at hIX
      have hc : c = .ret ∧ St X := by obtain ⟨_, _, _, _, _, q⟩ := hIX; exact q
      obtain ⟨rfl, hst⟩ := hc
      rw [hSt] at hst
      have hE := fun o => hold_done HS.out HSB.out.2.2.2 t0 (H0 := fun b => b = mb ∨ Rm b) (fun b hb => (hHC b hb).2.2.2) hDl HXJ.out hIX hst.1 tX hqX hC nD o
      have hsm : Sm X := hst.2.2
      clear hI hIx hSt hH hst
      gi_wp2
      refine ⟨by simp, .inl ⟨_, _, rfl, run_takeDeferred hD, ?_⟩⟩
      obtain ⟨g1, g2, Cj, g3, tt, g4, hjx⟩ := hE (.deferred none)
      exact ⟨_, results_none rfl _ _ _, ⟨_, rfl⟩, g1, ⟨g2, HSB.out.1.caught g1 HS.out.sub HR.out.1 (fun h => HD.out _ h (.inr (.inl rfl))), HSB.out.2.1.caught g1 HS.out.sub HR.out.2.1 (fun h => HD.out _ h (.inr (.inr (.inl rfl)))), HM.out.stab _ _ _ hsm (Tn.put _ _ _) (fun b hb e => by have := hRml b hb; omega)⟩, Cj, g3, .inr ⟨_, g4, hjx⟩⟩

end Go.Proofs.Ytjkgjckkglfokab

/- counted: a list of numbers, told one by one. -/
namespace Go.Proofs.Ytjkgjckkglfokab
open Go.RowKit Go.Shelf
set_option linter.unusedVariables false
set_option linter.unusedSimpArgs false
attribute [local go_sem] Oper.semAt_some

/-- Numbers lie in memory, in blocks of K. -/
def NumsAt (w : World) (K : Nat → Prop) (a : Option Addr) (L : List Int) : Prop := ∀ i x, L[i]? = some x → ∃ g o, a = some ⟨g, o, none⟩ ∧ K g ∧ g < w.heap.size ∧ w.cell? ⟨g, o + i, none⟩ = some (.int .i64 x)
theorem NumsAt.tn {A K : Nat → Prop} {w w' : World} {a : Option Addr} {L : List Int} (h : NumsAt w K a L) (ht : Tn A w w') (hA : ∀ b, K b → ¬ A b) : NumsAt w' K a L := fun i x hx => by
  obtain ⟨g, o, h1, h2, h3, h4⟩ := h i x hx
  exact ⟨g, o, h1, h2, Nat.lt_of_lt_of_le h3 ht.size, (World.cell?_of_block (w := w) (a := ⟨g, o + i, none⟩) (ht.block g h3 (hA g h2))).trans h4⟩
theorem take_pre {β : Type} {l : List β} {k : Nat} {x : β} (h : l[k]? = some x) : l.take k ++ [x] = l.take (k + 1) ∧ l.take k ++ [x] <+: l := by
  obtain ⟨h1, h2⟩ := List.getElem?_eq_some_iff.1 h
  have e : l.take k ++ [x] = l.take (k + 1) := by rw [List.take_succ_eq_append_getElem h1, h2]
  exact ⟨e, by rw [e]; exact List.take_prefix _ _⟩

/-- On the way of an iterator without a range of its own. -/
structure Way {α : Type} (J : Inv α) (C0 T R : Nat → Prop) (Sq : World → Prop) (W : World) (s : List α) (X : World) (C : Nat → Prop) : Prop where
  j : J s C X
  sub : ∀ b, C b → C0 b ∨ W.heap.size ≤ b
  tn : Tn (fun b => T b ∨ C0 b) W X
  sq : Sq X

set_option maxRecDepth 100000 in
set_option maxHeartbeats 2000000 in
theorem counted_seq {xs : List Int} {a : Option Addr} {cap lb nb cb : Nat} {K : Nat → Prop} (hl : xs.length < 4611686018427387904) (hK : ¬ K cb) (h1 : lb ≠ cb) (h2 : nb ≠ cb) :
    IsSeq Try.prog 26 #[.pointer (some ⟨lb, 0, none⟩), .pointer (some ⟨nb, 0, none⟩)] encI xs (fun b => b = lb ∨ b = nb ∨ b = cb ∨ ∃ g o, a = some ⟨g, o, none⟩ ∧ K g ∧ xs ≠ [] ∧ b = g) (fun b => b = cb) (fun W => IsC W lb #[.slice a xs.length cap] ∧ IsC W nb #[.pointer (some ⟨cb, 0, none⟩)] ∧ (∃ k, IsC W cb #[.int .i64 k]) ∧ NumsAt W K a xs) := by
  have stab : ∀ W W' A, (IsC W lb #[.slice a xs.length cap] ∧ IsC W nb #[.pointer (some ⟨cb, 0, none⟩)] ∧ (∃ k, IsC W cb #[.int .i64 k]) ∧ NumsAt W K a xs) → Tn A W W' → ¬ A lb → ¬ A nb → (∀ g o, a = some ⟨g, o, none⟩ → K g → xs ≠ [] → ¬ A g) → (∃ k, IsC W' cb #[.int .i64 k]) → (IsC W' lb #[.slice a xs.length cap] ∧ IsC W' nb #[.pointer (some ⟨cb, 0, none⟩)] ∧ (∃ k, IsC W' cb #[.int .i64 k]) ∧ NumsAt W' K a xs) := by
    rintro W W' A ⟨q1, q2, q3, q4⟩ ht a1 a2 a3 hk
    refine ⟨q1.tn ht a1, q2.tn ht a2, hk, fun i x hx => ?_⟩
    obtain ⟨g, o, e1, e2, e3, e4⟩ := q4 i x hx
    exact ⟨g, o, e1, e2, Nat.lt_of_lt_of_le e3 ht.size, (World.cell?_of_block (w := W) (a := ⟨g, o + i, none⟩) (ht.block g e3 (a3 g o e1 e2 (by rintro rfl; simp at hx)))).trans e4⟩
  refine ⟨fun b hb => .inr (.inr (.inl hb)), fun W h b hb => ?_, fun W W' A h ht hA => ?_, ?_⟩
  · rcases hb with rfl | rfl | rfl | ⟨g, o, e1, e2, e3, rfl⟩
    · exact h.1.lt
    · exact h.2.1.lt
    · obtain ⟨k, hk⟩ := h.2.2.1; exact hk.lt
    · obtain ⟨x, r, rfl⟩ := List.exists_cons_of_ne_nil e3
      obtain ⟨g', o', e4, -, e5, -⟩ := h.2.2.2 0 x rfl
      rw [e1] at e4
      cases e4
      exact e5
  · obtain ⟨k, hk⟩ := h.2.2.1
    exact stab W W' A h ht (hA _ (.inl rfl)) (hA _ (.inr (.inl rfl))) (fun g o e1 e2 e3 => hA _ (.inr (.inr (.inr ⟨g, o, e1, e2, e3, rfl⟩)))) ⟨k, hk.tn ht (hA _ (.inr (.inr (.inl rfl))))⟩
  · intro W l J Jx C0 D hq stJ stJx hY h0 hd hdT
    obtain ⟨Sq, hSq⟩ : ∃ Sq : World → Prop, Sq = fun W => IsC W lb #[.slice a xs.length cap] ∧ IsC W nb #[.pointer (some ⟨cb, 0, none⟩)] ∧ (∃ k, IsC W cb #[.int .i64 k]) ∧ NumsAt W K a xs := ⟨_, rfl⟩
    have hq' : Sq W := by rw [hSq]; exact hq
    have HSq : Hid (Sq = fun W => IsC W lb #[.slice a xs.length cap] ∧ IsC W nb #[.pointer (some ⟨cb, 0, none⟩)] ∧ (∃ k, IsC W cb #[.int .i64 k]) ∧ NumsAt W K a xs) := hSq
    have HY : Hid (RoundOk Try.prog l encI xs J Jx) := hY
    have HD : Hid (∀ b, C0 b → ¬ (b = lb ∨ b = nb ∨ b = cb ∨ ∃ g o, a = some ⟨g, o, none⟩ ∧ K g ∧ xs ≠ [] ∧ b = g)) := hd
    have HSJ : Hid (Stb D J ∧ Stb D Jx) := ⟨stJ, stJx⟩
    have HST : Hid (∀ W W' A, (IsC W lb #[.slice a xs.length cap] ∧ IsC W nb #[.pointer (some ⟨cb, 0, none⟩)] ∧ (∃ k, IsC W cb #[.int .i64 k]) ∧ NumsAt W K a xs) → Tn A W W' → ¬ A lb → ¬ A nb → (∀ g o, a = some ⟨g, o, none⟩ → K g → xs ≠ [] → ¬ A g) → (∃ k, IsC W' cb #[.int .i64 k]) → (IsC W' lb #[.slice a xs.length cap] ∧ IsC W' nb #[.pointer (some ⟨cb, 0, none⟩)] ∧ (∃ k, IsC W' cb #[.int .i64 k]) ∧ NumsAt W' K a xs)) := stab
    have HLW : Hid (lb < W.heap.size ∧ nb < W.heap.size ∧ cb < W.heap.size ∧ (∀ g o, a = some ⟨g, o, none⟩ → K g → xs ≠ [] → g < W.heap.size)) := by
      obtain ⟨k, hk⟩ := hq.2.2.1
      refine ⟨hq.1.lt, hq.2.1.lt, hk.lt, fun g o e1 e2 e3 => ?_⟩
      obtain ⟨x, r, rfl⟩ := List.exists_cons_of_ne_nil e3
      obtain ⟨g', o', e4, -, e5, -⟩ := hq.2.2.2 0 x rfl
      rw [e1] at e4
      cases e4
      exact e5
    have HW0 : Hid (Way J C0 (fun b => b = cb) (fun _ => True) Sq W [] W C0) := ⟨h0, fun _ h => .inl h, Tn.refl _ _, hq'⟩
    have hxs : (xs.length : Int) < 4611686018427387904 := by omega
    have hro : Fence.wide.round = none := rfl
    have hmo : Try.prog.follows Departure.mixedOrders = true := by kernel_rfl
    have hn1 : ∀ b w, (Op.unary UnOp.not (.bool b)).run Try.prog w = .ok (.bool (!b)) w := fun b _ => by cases b <;> kernel_rfl
    have HDT : Hid (∀ b, D b → ¬ b = cb) := hdT
    clear hdT hY hd stJ stJx h0 hq hq' hSq stab
    refine callsIn_of_wp Try.func26 rfl trivial ?_ rfl
    simp only [Try.ntmps26, List.size_toArray, List.length_cons, List.length_nil, Nat.reduceAdd, Nat.reduceSub, Array.replicate_succ, Array.replicate_zero, List.push_toArray, List.append_toArray, List.nil_append, List.cons_append]
    gi_wp2
    gi_loopw [4] (fun i wr => ∃ k : Nat, k ≤ xs.length ∧ i = .int .i64 (k : Int) ∧ Hid (∃ C, Way J C0 (fun b => b = cb) (fun _ => True) Sq W (xs.take k) wr C)) (fun i _ => xs.length - (intOf i).toNat)
    case atStart => exact ⟨0, Nat.zero_le _, rfl, ⟨_, HW0.out⟩⟩
    case round =>
      clear HW0
      obtain ⟨k, hk, rfl, HWk⟩ := hrel
      obtain ⟨C, hway⟩ := HWk.out
      have hsq := hway.sq
      rw [HSq.out] at hsq
      obtain ⟨q1, q2, ⟨c, q3⟩, q4⟩ := hsq
      have c1 : wr.cell? ⟨lb, 0, none⟩ = some (.slice a xs.length cap) := q1.cell 0
      have c2 : wr.cell? ⟨nb, 0, none⟩ = some (.pointer (some ⟨cb, 0, none⟩)) := q2.cell 0
      have c3 : wr.cell? ⟨cb, 0, none⟩ = some (.int .i64 c) := q3.cell 0
      have f3 := q3.frozen 0
      by_cases hlt : k < xs.length
      · have hx := List.getElem?_eq_getElem hlt
        obtain ⟨g, o, ha, hg1, hg2, hg3⟩ := q4 k _ hx
        obtain ⟨e1, e2⟩ := take_pre hx
        generalize xs[k] = x at *
        subst ha
        have hne : xs ≠ [] := by rintro rfl; simp at hlt
        have hgc : g ≠ cb := fun e => hK (e ▸ hg1)
        have hk1 : (k : Int) < (xs.length : Int) := by omega
        have hcl := q3.lt
        have hll := q1.lt
        have hnl := q2.lt
        have HQ3 : Hid (IsC wr cb #[.int .i64 c]) := q3
        have HE : Hid (xs.take k ++ [x] = xs.take (k + 1) ∧ xs.take k ++ [x] <+: xs) := ⟨e1, e2⟩
        have HWY : Hid (Way J C0 (fun b => b = cb) (fun _ => True) Sq W (xs.take k) wr C) := hway
        clear q1 q2 q3 q4 e1 e2 hway HWk hx
        obtain ⟨X1, hX1⟩ : ∃ X1, (wr.setCell ⟨cb, 0, none⟩ (.int .i64 (IntKind.i64.wrap (c + 1)))).drew = X1 := ⟨_, rfl⟩
        have t1 : Tn (fun b => b = cb) wr X1 := by rw [← hX1]; exact ((Tn.refl (fun b => b = cb) wr).set (p := ⟨cb, 0, none⟩) (.inl rfl) _).drew
        have d1 : X1.cell? ⟨lb, 0, none⟩ = some (.slice (some ⟨g, o, none⟩) xs.length cap) := (World.cell?_of_block (w := wr) (a := ⟨lb, 0, none⟩) (t1.block lb hll h1)).trans c1
        have d3 : X1.cell? ⟨g, o + k, none⟩ = some (.int .i64 x) := (World.cell?_of_block (w := wr) (a := ⟨g, o + k, none⟩) (t1.block g hg2 hgc)).trans hg3
        have hg2' : g < X1.heap.size := Nat.lt_of_lt_of_le hg2 t1.size
        have hll' : lb < X1.heap.size := Nat.lt_of_lt_of_le hll t1.size
        have HSX : Hid (Sq X1) := by
          have := HWY.out.sq
          show Sq X1
          rw [HSq.out] at this ⊢
          refine HST.out wr X1 _ this t1 h1 h2 (fun g' o' e _ _ e2 => hgc (by cases e; exact e2)) ⟨IntKind.i64.wrap (c + 1), ?_⟩
          obtain ⟨t, ht⟩ := HQ3.out
          exact ⟨t, by rw [← hX1]; show (wr.setCell _ _).heap[cb]? = _; simp [World.setCell, Array.getElem?_modify, ht]⟩
        have hCc : ∀ b, C b → ¬ (b = cb) := fun b hb e => by
          rcases HWY.out.sub b hb with h | h
          · exact HD.out b h (.inr (.inr (.inl e)))
          · have := HLW.out.2.2.1; omega
        have hJ1 : J (xs.take k) C X1 := HSJ.out.1.2 _ _ _ _ _ HWY.out.j t1 (fun b hb => hb.elim (hCc b) (HDT.out b))
        have hX := HY.out _ x C X1 HE.out.2 hJ1
        unfold encI at hX
        obtain ⟨fn, tmps, assign, body, hy2, hR⟩ := hX
        have HX1 : Hid ((wr.setCell ⟨cb, 0, none⟩ (.int .i64 (IntKind.i64.wrap (c + 1)))).drew = X1) := hX1
        have HT1 : Hid (Tn (fun b => b = cb ∨ C0 b) W X1) := HWY.out.tn.trans t1 (fun _ _ h => .inl h)
        have HSU : Hid (∀ b, C b → C0 b ∨ W.heap.size ≤ b) := HWY.out.sub
        clear hX1 t1 hJ1 hCc
        gi_wp2_with fail
        gi_region_with_o (fail)
        all_goals (
          rw [HX1.out]
          clear c1 c2 c3 f3 hg3 hcl hll hnl HQ3 HWY HX1
          gi_wp2_with fail
          refine ⟨rfl, RoundIn.mono (F := Fence.wide) hR ?_⟩
          rintro e Y ⟨C', tY, hC', hJ2⟩
          obtain ⟨bv, rfl, hJ3⟩ := yes_no hJ2
          have HYW : Hid (Tn (fun b => b = cb ∨ C0 b) W Y ∧ Sq Y ∧ (∀ b, C' b → C0 b ∨ W.heap.size ≤ b) ∧ (bv = true → J (xs.take (k + 1)) C' Y) ∧ (bv = false → Jx (xs.take (k + 1)) C' Y)) := by
            have hs1 := HT1.out.size
            refine ⟨HT1.out.trans tY (fun i hi h => (HSU.out i h).elim .inr (fun h => by omega)), ?_, fun b hb => ?_, by rw [← HE.out.1]; exact hJ3.1, by rw [← HE.out.1]; exact hJ3.2⟩
            · have hq := HSX.out
              rw [HSq.out] at hq ⊢
              have nC : ∀ b, b < W.heap.size → (b = lb ∨ b = nb ∨ b = cb ∨ ∃ g' o', (some (⟨g, o, none⟩ : Addr)) = some ⟨g', o', none⟩ ∧ K g' ∧ xs ≠ [] ∧ b = g') → ¬ C b := fun b hb h hc => (HSU.out b hc).elim (fun h' => HD.out b h' h) (fun h' => by omega)
              obtain ⟨c', hc'⟩ := hq.2.2.1
              exact HST.out X1 Y _ hq tY (nC _ HLW.out.1 (.inl rfl)) (nC _ HLW.out.2.1 (.inr (.inl rfl))) (fun g' o' e1 e2 e3 => nC _ (HLW.out.2.2.2 g' o' e1 e2 e3) (.inr (.inr (.inr ⟨g', o', e1, e2, e3, rfl⟩)))) ⟨c', hc'.tn tY (nC _ HLW.out.2.2.1 (.inr (.inr (.inl rfl))))⟩
            · rcases hC' b hb with h | h
              · exact HSU.out b h
              · exact .inr (by omega)
          clear hJ2 hJ3 tY hC' hR
          cases bv with
          | true =>
            have HG : Hid (∃ C, Way J C0 (fun b => b = cb) (fun _ => True) Sq W (xs.take (k + 1)) Y C) := ⟨C', HYW.out.2.2.2.1 rfl, HYW.out.2.2.1, HYW.out.1, HYW.out.2.1⟩
            clear HYW
            gi_wp2
            go_roundw
            case rel => exact ⟨k + 1, by omega, by go_num, HG⟩
            case measure => simp [intOf]; omega
          | false =>
            have HG : Hid (Tn (fun b => b = cb ∨ C0 b) W Y ∧ Sq Y ∧ (∀ b, C' b → C0 b ∨ W.heap.size ≤ b) ∧ Jx (xs.take (k + 1)) C' Y) := ⟨HYW.out.1, HYW.out.2.1, HYW.out.2.2.1, HYW.out.2.2.2.2 rfl⟩
            clear HYW
            gi_wp2
            refine bodyPost_ret (results_none rfl _ _ _) rfl ?_
            exact ⟨⟨_, rfl⟩, HG.out.1, by have h := HG.out.2.1; rw [HSq.out] at h; exact h, C', HG.out.2.2.1, .inr ⟨_, List.take_prefix _ _, HG.out.2.2.2⟩⟩)
      · obtain rfl : k = xs.length := by omega
        have HWY : Hid (Way J C0 (fun b => b = cb) (fun _ => True) Sq W (xs.take xs.length) wr C) := hway
        clear q1 q2 q3 q4 hway HWk
        gi_wp2
        go_end0
        exact ⟨⟨_, rfl⟩, HWY.out.tn, by have h := HWY.out.sq; rw [HSq.out] at h; exact h, C, HWY.out.sub, .inl (by have := HWY.out.j; rwa [List.take_length] at this)⟩

end Go.Proofs.Ytjkgjckkglfokab

/- Small functions, and those that make iterators. -/
namespace Go.Proofs.Ytjkgjckkglfokab
open Go.RowKit Go.Shelf
set_option linter.unusedVariables false
set_option linter.unusedSimpArgs false

set_option maxRecDepth 100000 in
set_option maxHeartbeats 1000000 in
theorem mk_only (w : World) (gf : Nat) (lb : Array Value) (mf : Nat) (ml : Array Value) : Calls Try.prog 16 #[.func (.func gf) #[] lb, .func (.func mf) #[] ml] w fun e w' => e = .returned (.func (.func 30) #[] #[.pointer (some ⟨w.heap.size, 0, none⟩), .pointer (some ⟨w.heap.size + 1, 0, none⟩)]) ∧ w' = (w.alloc (.cells #[.func (.func gf) #[] lb] 25)).alloc (.cells #[.func (.func mf) #[] ml] 28) := by
  have hmf : ∀ (fn : Fn) (first cap : Array Value) (w : World), (Instr.makeFunc fn first cap).run Try.prog w = .ok (.func fn first cap) w := fun _ _ _ _ => rfl
  go_enter Try.func16, Try.ntmps16
  go_wp2
  go_ret
  exact ⟨rfl, rfl⟩

set_option maxRecDepth 100000 in
set_option maxHeartbeats 1000000 in
theorem mk_map (w : World) (gf : Nat) (lb : Array Value) (mf : Nat) (ml : Array Value) : Calls Try.prog 13 #[.func (.func gf) #[] lb, .func (.func mf) #[] ml] w fun e w' => e = .returned (.func (.func 29) #[] #[.pointer (some ⟨w.heap.size, 0, none⟩), .pointer (some ⟨w.heap.size + 1, 0, none⟩)]) ∧ w' = (w.alloc (.cells #[.func (.func gf) #[] lb] 25)).alloc (.cells #[.func (.func mf) #[] ml] 30) := by
  have hmf : ∀ (fn : Fn) (first cap : Array Value) (w : World), (Instr.makeFunc fn first cap).run Try.prog w = .ok (.func fn first cap) w := fun _ _ _ _ => rfl
  go_enter Try.func13, Try.ntmps13
  go_wp2
  go_ret
  exact ⟨rfl, rfl⟩

set_option maxRecDepth 100000 in
set_option maxHeartbeats 1000000 in
theorem mk_flat (w : World) (gf : Nat) (lb : Array Value) (mf : Nat) (ml : Array Value) : Calls Try.prog 18 #[.func (.func gf) #[] lb, .func (.func mf) #[] ml] w fun e w' => e = .returned (.func (.func 31) #[] #[.pointer (some ⟨w.heap.size, 0, none⟩), .pointer (some ⟨w.heap.size + 1, 0, none⟩)]) ∧ w' = (w.alloc (.cells #[.func (.func gf) #[] lb] 25)).alloc (.cells #[.func (.func mf) #[] ml] 29) := by
  have hmf : ∀ (fn : Fn) (first cap : Array Value) (w : World), (Instr.makeFunc fn first cap).run Try.prog w = .ok (.func fn first cap) w := fun _ _ _ _ => rfl
  go_enter Try.func18, Try.ntmps18
  go_wp2
  go_ret
  exact ⟨rfl, rfl⟩

set_option maxRecDepth 100000 in
set_option maxHeartbeats 1000000 in
theorem mk_counted (w : World) (a : Option Addr) (n cap : Nat) (p : Option Addr) : Calls Try.prog 5 #[.slice a n cap, .pointer p] w fun e w' => e = .returned (.func (.func 26) #[] #[.pointer (some ⟨w.heap.size, 0, none⟩), .pointer (some ⟨w.heap.size + 1, 0, none⟩)]) ∧ w' = (w.alloc (.cells #[.slice a n cap] 22)).alloc (.cells #[.pointer p] 27) := by
  have hmf : ∀ (fn : Fn) (first cap : Array Value) (w : World), (Instr.makeFunc fn first cap).run Try.prog w = .ok (.func fn first cap) w := fun _ _ _ _ => rfl
  go_enter Try.func5, Try.ntmps5
  go_wp2
  go_ret
  exact ⟨rfl, rfl⟩

/-- Whether a number divides another one. -/
def dvd0 (a b : Int) : Bool := a == 0 || b.tmod a == 0
theorem divides_any (w : World) (a b : Int) : Calls Try.prog 10 #[.int .i64 a, .int .i64 b] w fun e w' => e = .returned (.bool (dvd0 a b)) ∧ w' = w := by
  by_cases h : a = 0
  · have hb : (a == 0) = true := by simp [h]
    have HD : Hid (dvd0 a b = true) := by show _ = _; simp [dvd0, h]
    clear h
    go_enter Try.func10, Try.ntmps10
    go_wp2
    go_ret
    rw [HD.out]
    exact ⟨rfl, rfl⟩
  · have hb : (a == 0) = false := by simp [h]
    go_enter Try.func10, Try.ntmps10
    go_wp2
    go_ret
    exact ⟨congrArg (fun v => Ending.returned (.bool v)) (by simp [dvd0, hb] : (b.tmod a == 0) = dvd0 a b), rfl⟩

theorem isC_stab {kb : Nat} {cs : Array Value} : ∀ W W' A, IsC W kb cs → Tn A W W' → (∀ b, b = kb → ¬ A b) → IsC W' kb cs := fun _ _ _ h ht hA => h.tn ht (hA _ rfl)

end Go.Proofs.Ytjkgjckkglfokab
