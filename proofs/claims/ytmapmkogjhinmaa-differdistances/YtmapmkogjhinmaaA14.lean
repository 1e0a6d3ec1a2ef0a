/- dist: the distance of two parts, by the document. -/
import Derived.Test.YtmapmkogjhinmaaA13
import Derived.Test.YtmapmkogjhinmaaA12
namespace Go.Proofs.Ytmapmkogjhinmaa
open Go.RowKit
set_option maxRecDepth 100000
set_option maxHeartbeats 4000000
set_option linter.unusedVariables false
set_option linter.unusedSimpArgs false
attribute [local go_sem] Bel.cell Bel.fz
def PostOf (w : World) (lo hi fb o mb len : Nat) (i : Nat) (x : Kn × Nat) : Prop :=
 ∃ gn cn ga ca aa ac ka kl kc, w.cell? ⟨fb, o, none⟩ = some (.slice (some ⟨gn, 0, none⟩) len cn) /\ w.cell? ⟨fb, o + 1, none⟩ = some (.slice (some ⟨ga, 0, none⟩) len ca) /\ gn < w.heap.size /\ gn ≠ mb /\ ga < w.heap.size /\ ga ≠ mb /\
  w.cell? ⟨ga, i, none⟩ = some (.int .i64 (x.2 : Int)) /\ w.cell? ⟨gn, i * 5, none⟩ = some (.int .i64 x.1.kind) /\ w.cell? ⟨gn, i * 5 + 1, none⟩ = some (.string x.1.name) /\ w.cell? ⟨gn, i * 5 + 2, none⟩ = some (.slice aa x.1.attrs.length ac) /\
  w.cell? ⟨gn, i * 5 + 3, none⟩ = some (.string x.1.text) /\ w.cell? ⟨gn, i * 5 + 4, none⟩ = some (.slice ka kl kc) /\ AttrsAt w lo hi aa x.1.attrs /\ x.1.attrs.length <= maxA
theorem PostOf.step {w w' : World} {lo hi fb o mb len i : Nat} {x : Kn × Nat} (h : PostOf w lo hi fb o mb len i x) (hf : fb < w.heap.size) (hfm : fb ≠ mb) (hhi : hi <= mb) (hmb : mb < w.heap.size) (ht : Turn (fun b => b = mb) w w') : PostOf w' lo hi fb o mb len i x := by
 have hs := ht.size
 have hc : ∀ b o, b < w.heap.size -> b ≠ mb -> w'.cell? ⟨b, o, none⟩ = w.cell? ⟨b, o, none⟩ := fun b o h1 h2 => World.cell?_of_block (w := w) (a := ⟨b, o, none⟩) (ht.block b h1 h2)
 obtain ⟨gn, cn, ga, ca, aa, ac, ka, kl, kc, h1, h2, h3, h4, h5, h6, h7, k0, k1, k2, k3, k4, k5, k6⟩ := h
 exact ⟨gn, cn, ga, ca, aa, ac, ka, kl, kc, (hc _ _ hf hfm).trans h1, (hc _ _ hf hfm).trans h2, by omega, h4, by omega, h6, (hc _ _ h5 h6).trans h7, (hc _ _ h3 h4).trans k0, (hc _ _ h3 h4).trans k1, (hc _ _ h3 h4).trans k2, (hc _ _ h3 h4).trans k3, (hc _ _ h3 h4).trans k4, k5.of_cells (fun b o _ hb => hc _ _ (by omega) (by omega)), k6⟩
structure FarAt (w : World) (lo hi fb mb : Nat) (A B : List (Kn × Nat)) : Prop where
 a0 : ∀ (i : Nat) (x : Kn × Nat), A[i]? = some x -> PostOf w lo hi fb 0 mb A.length i x
 b0 : ∀ (i : Nat) (x : Kn × Nat), B[i]? = some x -> PostOf w lo hi fb 2 mb B.length i x
 memo : w.cell? ⟨fb, 4, none⟩ = some (.slice (some ⟨mb, 0, none⟩) 1185921 1185921)
 flt : fb < w.heap.size
 mlt : mb < w.heap.size
 ne : fb ≠ mb
 hi : hi <= mb
 fz : ∀ o, w.frozen? ⟨mb, o, none⟩ = false
 known : ∀ a b c d, a <= 32 -> b <= 32 -> c <= 32 -> d <= 32 -> ∃ v : Int, w.cell? ⟨mb, ix a b c d, none⟩ = some (.int .i64 v) /\ (v = -1 \/ v = (Z A B a b c d : Nat))
theorem FarAt.below {w w' : World} {lo hi fb mb : Nat} {A B : List (Kn × Nat)} (h : FarAt w lo hi fb mb A B) (hb : Below w.heap.size w w') : FarAt w' lo hi fb mb A B := by
 have hs := hb.size
 have ht : Turn (fun b => b = mb) w w' := (Turn.refl _ _).then hb (Nat.le_refl _)
 refine ⟨fun i x hx => (h.a0 i x hx).step h.flt h.ne h.hi h.mlt ht, fun i x hx => (h.b0 i x hx).step h.flt h.ne h.hi h.mlt ht, (hb.cell (p := ⟨fb, 4, none⟩) h.flt).trans h.memo, Nat.lt_of_lt_of_le h.flt hs, Nat.lt_of_lt_of_le h.mlt hs, h.ne, h.hi, fun o => (hb.frozen (p := ⟨mb, o, none⟩) h.mlt).trans (h.fz o), fun a b c d ha hb' hc hd => ?_⟩
 obtain ⟨v, h1, h2⟩ := h.known a b c d ha hb' hc hd
 exact ⟨v, (hb.cell (p := ⟨mb, ix a b c d, none⟩) h.mlt).trans h1, h2⟩
theorem FarAt.put {w : World} {lo hi fb mb : Nat} {A B : List (Kn × Nat)} (h : FarAt w lo hi fb mb A B) {a b c d : Nat} (ha : a <= 32) (hb : b <= 32) (hc : c <= 32) (hd : d <= 32) : FarAt (w.setCell ⟨mb, ix a b c d, none⟩ (.int .i64 ((Z A B a b c d : Nat) : Int))) lo hi fb mb A B := by
 have ht : Turn (fun b => b = mb) w (w.setCell ⟨mb, ix a b c d, none⟩ (.int .i64 ((Z A B a b c d : Nat) : Int))) := (Turn.refl _ _).setCell (A := fun b => b = mb) (p := ⟨mb, _, none⟩) rfl _
 have hs := ht.size
 refine ⟨fun i x hx => (h.a0 i x hx).step h.flt h.ne h.hi h.mlt ht, fun i x hx => (h.b0 i x hx).step h.flt h.ne h.hi h.mlt ht, (World.cell?_setCell_far _ _ _ _ (by simpa using fun e => h.ne e.symm)).trans h.memo, Nat.lt_of_lt_of_le h.flt hs, Nat.lt_of_lt_of_le h.mlt hs, h.ne, h.hi, fun o => ?_, fun a' b' c' d' ha' hb' hc' hd' => ?_⟩
 ·rw [World.frozen?_setCell]; exact h.fz o
 ·obtain ⟨v, h1, h2⟩ := h.known a' b' c' d' ha' hb' hc' hd'
  by_cases e : ix a' b' c' d' = ix a b c d
  ·obtain ⟨rfl, rfl, rfl, rfl⟩ := ix_inj hb' hc' hd' hb hc hd e
   exact ⟨_, World.cell?_setCell_same _ _ _ (by rw [h1]), .inr rfl⟩
  ·exact ⟨v, (World.cell?_setCell_other _ _ _ _ (fun e' => e (by injection e' with _ e' _; exact e'.symm))).trans h1, h2⟩
theorem least_any (w : World) (x y : Int) : Calls Try.prog 21 #[.int .i64 x, .int .i64 y] w fun e w' => e = .returned (.int .i64 (if y < x then y else x)) /\ w' = w := by
 by_cases h : y < x
 ·rw [if_pos h]
  go_enter Try.func21, Try.ntmps21
  go_wp2
  go_ret
  exact ⟨rfl, rfl⟩
 ·rw [if_neg h]
  go_enter Try.func21, Try.ntmps21
  go_wp2
  go_ret
  exact ⟨rfl, rfl⟩
def DiP (w : World) (lo hi fb mb : Nat) (A B : List (Kn × Nat)) (z : Nat) (e : Ending) (w' : World) : Prop :=
 e = .returned (.int .i64 (z : Int)) /\ Turn (fun b => b = mb) w w' /\ FarAt w' lo hi fb mb A B
def DiAll (lo hi fb mb : Nat) (A B : List (Kn × Nat)) (n : Nat) : Prop := ∀ (w : World) (a b c d : Nat), FarAt w lo hi fb mb A B -> Cl A a b -> Cl B c d -> (b - a) + (d - c) <= n ->
 Calls Try.prog 13 #[.pointer (some ⟨fb, 0, none⟩), .int .i64 (a : Int), .int .i64 (b : Int), .int .i64 (c : Int), .int .i64 (d : Int)] w (DiP w lo hi fb mb A B (Z A B a b c d))
theorem dist_base (lo hi fb mb : Nat) (A B : List (Kn × Nat)) (w : World) (a b c d : Nat) (hm : FarAt w lo hi fb mb A B) (hab : Cl A a b) (hcd : Cl B c d) (hA : A.length <= 32) (hB : B.length <= 32) (he : a = b \/ c = d) :
  Calls Try.prog 13 #[.pointer (some ⟨fb, 0, none⟩), .int .i64 (a : Int), .int .i64 (b : Int), .int .i64 (c : Int), .int .i64 (d : Int)] w (DiP w lo hi fb mb A B (Z A B a b c d)) := by
 have l1 := hab.le
 have l2 := hcd.le
 have l3 := hab.len
 have l4 := hcd.len
 have hz : ((Z A B a b c d : Nat) : Int) = (b : Int) - (a : Int) + ((d : Int) - (c : Int)) := by rw [Z_base he]; omega
 have HM : Hid (FarAt w lo hi fb mb A B) := hm
 clear hm hab hcd
 generalize Z A B a b c d = z at *
 have HZ : Hid (((z : Nat) : Int) = (b : Int) - (a : Int) + ((d : Int) - (c : Int))) := hz
 have HE : Hid (a = b \/ c = d) := he
 clear hz
 by_cases e1 : a = b
 ·have h1 : ((a : Int) == (b : Int)) = true := by simp [e1]
  have HE1 : Hid (a = b) := e1
  clear e1 he
  go_enter Try.func13, Try.ntmps13
  go_wp2
  go_ret
  exact ⟨congrArg (fun z => Ending.returned (.int .i64 z)) (by have := HZ.out; have := HE1.out; omega), Turn.refl _ _, HM.out⟩
 ·have e2 : c = d := by omega
  have h1 : ((a : Int) == (b : Int)) = false := by simp; omega
  have h2 : ((c : Int) == (d : Int)) = true := by simp [e2]
  have HE2 : Hid (c = d) := e2
  clear e1 e2 he
  go_enter Try.func13, Try.ntmps13
  go_wp2
  go_ret
  exact ⟨congrArg (fun z => Ending.returned (.int .i64 z)) (by have := HZ.out; have := HE2.out; omega), Turn.refl _ _, HM.out⟩
attribute [local go_sem] Bel.cell Bel.fz
theorem dist_step (lo hi fb mb : Nat) (A B : List (Kn × Nat)) (hWA : WP A) (hWB : WP B) (hA : A.length <= 32) (hB : B.length <= 32) (n : Nat) (ih : DiAll lo hi fb mb A B n) (w : World) (a b c d : Nat) (hm : FarAt w lo hi fb mb A B) (hab : Cl A a (b + 1)) (hcd : Cl B c (d + 1)) (e1 : a ≠ b + 1) (e2 : c ≠ d + 1) (hn : (b + 1 - a) + (d + 1 - c) <= n + 1) :
  Calls Try.prog 13 #[.pointer (some ⟨fb, 0, none⟩), .int .i64 (a : Int), .int .i64 ((b : Int) + 1), .int .i64 (c : Int), .int .i64 ((d : Int) + 1)] w (DiP w lo hi fb mb A B (Z A B a (b + 1) c (d + 1))) := by
 have hzs := Z_step hWA hWB hab hcd e1 e2
 obtain ⟨p1, p2, p3, p4, p5⟩ := hab.in hWA e1
 obtain ⟨q1, q2, q3, q4, q5⟩ := hcd.in hWB e2
 have l1 := hab.le
 have l2 := hcd.le
 have l3 := hab.len
 have l4 := hcd.len
 simp only [Nat.add_sub_cancel] at hzs p1 p2 p3 p4 p5 q1 q2 q3 q4 q5
 have hz1 := Z_le' hWA hWB p1 q1
 have hz2 := Z_le' hWA hWB p2 q2
 have hz3 := Z_le' hWA hWB p3 hcd
 have hz4 := Z_le' hWA hWB hab q3
 have ht1 := turnN_le A B b d
 have HC1 : Hid (∀ W, FarAt W lo hi fb mb A B -> Calls Try.prog 13 #[.pointer (some ⟨fb, 0, none⟩), .int .i64 ((fsN A b : Nat) : Int), .int .i64 (b : Int), .int .i64 ((fsN B d : Nat) : Int), .int .i64 (d : Int)] W (DiP W lo hi fb mb A B (Z A B (fsN A b) b (fsN B d) d))) := fun W hW => ih W _ _ _ _ hW p1 q1 (by omega)
 have HC2 : Hid (∀ W, FarAt W lo hi fb mb A B -> Calls Try.prog 13 #[.pointer (some ⟨fb, 0, none⟩), .int .i64 (a : Int), .int .i64 ((fsN A b : Nat) : Int), .int .i64 (c : Int), .int .i64 ((fsN B d : Nat) : Int)] W (DiP W lo hi fb mb A B (Z A B a (fsN A b) c (fsN B d)))) := fun W hW => ih W _ _ _ _ hW p2 q2 (by omega)
 have HC3 : Hid (∀ W, FarAt W lo hi fb mb A B -> Calls Try.prog 13 #[.pointer (some ⟨fb, 0, none⟩), .int .i64 (a : Int), .int .i64 (b : Int), .int .i64 (c : Int), .int .i64 ((d : Int) + 1)] W (DiP W lo hi fb mb A B (Z A B a b c (d + 1)))) := fun W hW => by
  have := ih W a b c (d + 1) hW p3 hcd (by omega)
  rwa [show (((d + 1 : Nat)) : Int) = (d : Int) + 1 from by omega] at this
 have HC4 : Hid (∀ W, FarAt W lo hi fb mb A B -> Calls Try.prog 13 #[.pointer (some ⟨fb, 0, none⟩), .int .i64 (a : Int), .int .i64 ((b : Int) + 1), .int .i64 (c : Int), .int .i64 (d : Int)] W (DiP W lo hi fb mb A B (Z A B a (b + 1) c d))) := fun W hW => by
  have := ih W a (b + 1) c d hW hab q3 (by omega)
  rwa [show (((b + 1 : Nat)) : Int) = (b : Int) + 1 from by omega] at this
 have HZ : Hid (Z A B a (b + 1) c (d + 1) = min (turnN A B b d + Z A B (fsN A b) b (fsN B d) d + Z A B a (fsN A b) c (fsN B d)) (min (Z A B a b c (d + 1) + 1) (Z A B a (b + 1) c d + 1))) := hzs
 have HG : Hid (FarAt w lo hi fb mb A B) := hm
 have h1 : ((a : Int) == (b : Int) + 1) = false := by simp; omega
 have h2 : ((c : Int) == (d : Int) + 1) = false := by simp; omega
 have ha32 : a <= 32 := by omega
 have hb32 : b + 1 <= 32 := by omega
 have hc32 : c <= 32 := by omega
 have hd32 : d + 1 <= 32 := by omega
 obtain ⟨X, hX⟩ : ∃ X, X = ix a (b + 1) c (d + 1) := ⟨_, rfl⟩
 have hXl : X < 1185921 := by rw [hX]; exact ix_lt ha32 hb32 hc32 hd32
 have hXe : (X : Int) = (((a : Int) * 33 + ((b : Int) + 1)) * 33 + (c : Int)) * 33 + ((d : Int) + 1) := by rw [hX]; unfold ix; omega
 have i1 : IntKind.i64.wrap ((a : Int) * 33) = (a : Int) * 33 := by rw [IntKind.wrap_i64]; omega
 have i2 : IntKind.i64.wrap ((a : Int) * 33 + ((b : Int) + 1)) = (a : Int) * 33 + ((b : Int) + 1) := by rw [IntKind.wrap_i64]; omega
 have i3 : IntKind.i64.wrap (((a : Int) * 33 + ((b : Int) + 1)) * 33) = ((a : Int) * 33 + ((b : Int) + 1)) * 33 := by rw [IntKind.wrap_i64]; omega
 have i4 : IntKind.i64.wrap (((a : Int) * 33 + ((b : Int) + 1)) * 33 + (c : Int)) = ((a : Int) * 33 + ((b : Int) + 1)) * 33 + (c : Int) := by rw [IntKind.wrap_i64]; omega
 have i5 : IntKind.i64.wrap ((((a : Int) * 33 + ((b : Int) + 1)) * 33 + (c : Int)) * 33) = (((a : Int) * 33 + ((b : Int) + 1)) * 33 + (c : Int)) * 33 := by rw [IntKind.wrap_i64]; omega
 have i6 : IntKind.i64.wrap ((((a : Int) * 33 + ((b : Int) + 1)) * 33 + (c : Int)) * 33 + ((d : Int) + 1)) = (X : Int) := by rw [IntKind.wrap_i64]; omega
 have hx : ∃ x, A[b]? = some x := ⟨_, List.getElem?_eq_getElem (by omega)⟩
 have hy : ∃ y, B[d]? = some y := ⟨_, List.getElem?_eq_getElem (by omega)⟩
 obtain ⟨x, hx⟩ := hx
 obtain ⟨y, hy⟩ := hy
 have HX : Hid (A[b]? = some x /\ x.2 = fsN A b) := ⟨hx, by unfold fsN; rw [hx]⟩
 have HY : Hid (B[d]? = some y /\ y.2 = fsN B d) := ⟨hy, by unfold fsN; rw [hy]⟩
 have HTN : Hid (turnN A B b d = if sameK x.1 y.1 then 0 else 1) := by show _ = _; unfold turnN; rw [hx, hy]
 have tA : (b : Int) < (A.length : Int) := by omega
 have tB : (d : Int) < (B.length : Int) := by omega
 have hA' : (A.length : Int) <= 32 := by omega
 have hB' : (B.length : Int) <= 32 := by omega
 obtain ⟨v, hv1, hv2⟩ := hm.known a (b + 1) c (d + 1) ha32 hb32 hc32 hd32
 have HV2 : Hid (v = -1 \/ v = ((Z A B a (b + 1) c (d + 1) : Nat) : Int)) := hv2
 rw [<- hX] at hv1
 have HXX : Hid (X = ix a (b + 1) c (d + 1)) := hX
 obtain ⟨N, hN⟩ : ∃ N : Nat, N = 1185921 := ⟨_, rfl⟩
 have HME : Hid (∀ W, FarAt W lo hi fb mb A B -> W.cell? ⟨fb, 4, none⟩ = some (.slice (some ⟨mb, 0, none⟩) N N)) := by
  intro W hW
  rw [hN]
  exact hW.memo
 have hmm := HME.out w hm
 have tX : (X : Int) < (N : Int) := by omega
 have tN : (N : Int) <= 1185921 := by omega
 clear hzs hm hx hy p1 p2 p3 q1 q2 q3 hab hcd hXe hX hv2 hN hXl
 go_enter Try.func13, Try.ntmps13
 go_upto_region 6 with fail
 clear i1 i2 i3 i4 i5 i6
 by_cases hv0 : 0 <= v
 ·have HVZ : Hid (v = ((Z A B a (b + 1) c (d + 1) : Nat) : Int)) := by
   rcases HV2.out with h | h
   ·omega
   ·exact h
  clear HV2
  go_wp2
  go_ret
  exact ⟨congrArg (fun z => Ending.returned (.int .i64 z)) HVZ.out, Turn.refl _ _, HG.out⟩
 ·clear HV2
  obtain ⟨gn, cn, ga, ca, aa, ac, ka, kl, kc, r1, r2, r3, r4, r5, r6, r7, r8, r9, r10, r11, r12, r13, r14⟩ := HG.out.a0 b x HX.out.1
  obtain ⟨gn', cn', ga', ca', aa', ac', ka', kl', kc', s1, s2, s3, s4, s5, s6, s7, s8, s9, s10, s11, s12, s13, s14⟩ := HG.out.b0 d y HY.out.1
  rw [HX.out.2] at r7
  rw [HY.out.2] at s7
  have hfl := HG.out.flt
  generalize fsN A b = ia at *
  generalize fsN B d = ib at *
  clear r8 r9 r10 r11 r12 r13 r14 s8 s9 s10 s11 s12 s13 s14
  go_wp2
  refine wp_region_bel (by kernel_rfl) (by kernel_rfl) ?_
  intro hne
  repeat go_big_quiet_step (fail)
  refine wpQuiet_nil ?_
  rintro _ ⟨u, rfl⟩
  have HGU : Hid (FarAt u.w lo hi fb mb A B) := HG.out.below u.h
  have HTU : Hid (Turn (fun b => b = mb) w u.w) := (Turn.refl _ _).then u.h (Nat.le_refl _)
  clear r1 r2 r3 r4 r5 r6 r7 s1 s2 s3 s4 s5 s6 s7 hmm hv1 hne
  generalize u.w = wu at *
  have hc3 := HC3.out wu HGU.out
  generalize Z A B ia b ib d = z1 at *
  generalize Z A B a ia c ib = z2 at *
  generalize Z A B a b c (d + 1) = z3 at *
  generalize Z A B a (b + 1) c d = z4 at *
  obtain ⟨zz, hzz⟩ : ∃ zz, zz = Z A B a (b + 1) c (d + 1) := ⟨_, rfl⟩
  rw [<- hzz] at HZ ⊢
  have HZE : Hid (zz = Z A B a (b + 1) c (d + 1)) := hzz
  clear hzz
  go_wp2_with fail
  refine hc3.mono ?_
  rintro e w5 ⟨rfl, ht5, hi5⟩
  have HT5 : Hid (Turn (fun b => b = mb) w w5) := HTU.out.trans ht5
  have hc4 := HC4.out w5 hi5
  clear hc3 ht5 hi5
  go_wp2_with fail
  refine hc4.mono ?_
  rintro e w6 ⟨rfl, ht6, hi6⟩
  have HT6 : Hid (Turn (fun b => b = mb) w w6) := HT5.out.trans ht6
  have HG6 : Hid (FarAt w6 lo hi fb mb A B) := hi6
  clear hc4 ht6 hi6
  have hle := least_any w6 (z3 : Int) (z4 : Int)
  go_wp2_with fail
  refine hle.mono ?_
  rintro e w6b ⟨rfl, hw6b⟩
  rw [hw6b]
  clear hle hw6b w6b
  obtain ⟨m1, hm1⟩ : ∃ m1 : Nat, (m1 : Int) = if (z4 : Int) < (z3 : Int) then (z4 : Int) else (z3 : Int) := ⟨if z4 < z3 then z4 else z3, by split <;> split <;> omega⟩
  have HM1 : Hid (m1 = min z3 z4) := by show _ = _; split at hm1 <;> omega
  have hm1l : (m1 : Int) <= 64 := by have := HM1.out; omega
  rw [<- hm1]
  clear hm1
  obtain ⟨gn, cn, ga, ca, aa, ac, ka, kl, kc, r1, r2, r3, r4, r5, r6, r7, r8, r9, r10, r11, r12, r13, r14⟩ := HG6.out.a0 b x HX.out.1
  obtain ⟨gn', cn', ga', ca', aa', ac', ka', kl', kc', s1, s2, s3, s4, s5, s6, s7, s8, s9, s10, s11, s12, s13, s14⟩ := HG6.out.b0 d y HY.out.1
  have hfl6 := HG6.out.flt
  have hhi6 : hi <= w6.heap.size := by have := HG6.out.hi; have := HG6.out.mlt; omega
  have HA6 : Hid (AttrsAt w6 lo hi aa x.1.attrs /\ AttrsAt w6 lo hi aa' y.1.attrs) := ⟨r13, s13⟩
  have hone : ∀ W, Below w6.heap.size w6 W -> Calls Try.prog 22 #[.agg #[.int .i64 x.1.kind, .string x.1.name, .slice aa x.1.attrs.length ac, .string x.1.text, .slice ka kl kc], .agg #[.int .i64 y.1.kind, .string y.1.name, .slice aa' y.1.attrs.length ac', .string y.1.text, .slice ka' kl' kc']] W fun e w' => e = .returned (.bool (sameK x.1 y.1)) /\ Below W.heap.size W w' := fun W hW =>
   one_any W lo lo hi hi x.1 y.1 aa aa' ka ka' ac ac' kl kc kl' kc' r14 s14 (Nat.le_trans hhi6 hW.size) (Nat.le_trans hhi6 hW.size) (HA6.out.1.of_cells (fun b o _ h2 => hW.cell (p := ⟨b, o, none⟩) (Nat.lt_of_lt_of_le h2 hhi6))) (HA6.out.2.of_cells (fun b o _ h2 => hW.cell (p := ⟨b, o, none⟩) (Nat.lt_of_lt_of_le h2 hhi6)))
  generalize sameK x.1 y.1 = sk at *
  clear r2 r4 r5 r6 r7 r13 r14 s2 s4 s5 s6 s7 s13 s14
  go_upto_region 11 with fail
  refine wp_region_bel (by kernel_rfl) (by kernel_rfl) ?_
  intro hne2
  repeat go_big_quiet_step ((go_at_call 22; exact Calls.bel_of (hone _ (Bel.h _))))
  refine wpQuiet_nil ?_
  rintro _ ⟨v7, rfl⟩
  have HG7 : Hid (FarAt v7.w lo hi fb mb A B) := HG6.out.below v7.h
  have HT7 : Hid (Turn (fun b => b = mb) w v7.w) := HT6.out.then v7.h HT6.out.size
  clear hone r1 r3 r8 r9 r10 r11 r12 s1 s3 s8 s9 s10 s11 s12 hne2
  generalize v7.w = w7 at *
  have hc2 := HC2.out w7 HG7.out
  cases sk with
  | false =>
   have hmin : (if (z2 : Int) + (z1 : Int) + 1 < (m1 : Int) + 1 then (z2 : Int) + (z1 : Int) + 1 else (m1 : Int) + 1) = (zz : Int) := by
    have h9 := HZ.out
    have h8 := HM1.out
    rw [HTN.out] at h9
    simp only [Bool.false_eq_true, if_true, if_false] at h9
    split <;> omega
   have hle2 : ∀ W, Calls Try.prog 21 #[.int .i64 ((m1 : Int) + 1), .int .i64 ((z2 : Int) + (z1 : Int) + 1)] W fun e w' => e = .returned (.int .i64 (zz : Int)) /\ w' = W := fun W => by
    have := least_any W ((m1 : Int) + 1) ((z2 : Int) + (z1 : Int) + 1)
    rwa [hmin] at this
   have HLE : Hid (∀ W, Calls Try.prog 21 #[.int .i64 ((m1 : Int) + 1), .int .i64 ((z2 : Int) + (z1 : Int) + 1)] W fun e w' => e = .returned (.int .i64 (zz : Int)) /\ w' = W) := hle2
   clear hmin hle2
   go_wp2_with fail
   refine hc2.mono ?_
   rintro e w8 ⟨rfl, ht8, hi8⟩
   have HT8 : Hid (Turn (fun b => b = mb) w w8) := HT7.out.trans ht8
   have hc1 := HC1.out w8 hi8
   clear hc2 ht8 hi8
   go_wp2_with fail
   refine hc1.mono ?_
   rintro e w9 ⟨rfl, ht9, hi9⟩
   have HT9 : Hid (Turn (fun b => b = mb) w w9) := HT8.out.trans ht9
   have HG9 : Hid (FarAt w9 lo hi fb mb A B) := hi9
   have hle3 := HLE.out w9
   clear hc1 ht9 hi9
   go_wp2_with fail
   refine hle3.mono ?_
   rintro e w9b ⟨rfl, hw9b⟩
   rw [hw9b]
   clear hle3 hw9b w9b
   have hm9 := HME.out w9 HG9.out
   obtain ⟨v9, hv9, -⟩ := HG9.out.known a (b + 1) c (d + 1) ha32 hb32 hc32 hd32
   rw [<- HXX.out] at hv9
   have hf9 := HG9.out.fz X
   have HF : Hid (FarAt (w9.setCell ⟨mb, X, none⟩ (.int .i64 (zz : Int))) lo hi fb mb A B) := by
    show FarAt _ _ _ _ _ _ _
    rw [HXX.out, HZE.out]
    exact HG9.out.put ha32 hb32 hc32 hd32
   have HT10 : Hid (Turn (fun b => b = mb) w (w9.setCell ⟨mb, X, none⟩ (.int .i64 (zz : Int)))) := HT9.out.setCell (A := fun b => b = mb) (p := ⟨mb, X, none⟩) rfl _
   go_wp2
   go_ret
   exact ⟨congrArg (fun z : Nat => Ending.returned (.int .i64 (z : Int))) HZE.out, HT10.out, HF.out⟩
  | true =>
   have hmin : (if (z2 : Int) + (z1 : Int) < (m1 : Int) + 1 then (z2 : Int) + (z1 : Int) else (m1 : Int) + 1) = (zz : Int) := by
    have h9 := HZ.out
    have h8 := HM1.out
    rw [HTN.out] at h9
    simp only [Bool.false_eq_true, if_true, if_false] at h9
    split <;> omega
   have hle2 : ∀ W, Calls Try.prog 21 #[.int .i64 ((m1 : Int) + 1), .int .i64 ((z2 : Int) + (z1 : Int))] W fun e w' => e = .returned (.int .i64 (zz : Int)) /\ w' = W := fun W => by
    have := least_any W ((m1 : Int) + 1) ((z2 : Int) + (z1 : Int))
    rwa [hmin] at this
   have HLE : Hid (∀ W, Calls Try.prog 21 #[.int .i64 ((m1 : Int) + 1), .int .i64 ((z2 : Int) + (z1 : Int))] W fun e w' => e = .returned (.int .i64 (zz : Int)) /\ w' = W) := hle2
   clear hmin hle2
   go_wp2_with fail
   refine hc2.mono ?_
   rintro e w8 ⟨rfl, ht8, hi8⟩
   have HT8 : Hid (Turn (fun b => b = mb) w w8) := HT7.out.trans ht8
   have hc1 := HC1.out w8 hi8
   clear hc2 ht8 hi8
   go_wp2_with fail
   refine hc1.mono ?_
   rintro e w9 ⟨rfl, ht9, hi9⟩
   have HT9 : Hid (Turn (fun b => b = mb) w w9) := HT8.out.trans ht9
   have HG9 : Hid (FarAt w9 lo hi fb mb A B) := hi9
   have hle3 := HLE.out w9
   clear hc1 ht9 hi9
   go_wp2_with fail
   refine hle3.mono ?_
   rintro e w9b ⟨rfl, hw9b⟩
   rw [hw9b]
   clear hle3 hw9b w9b
   have hm9 := HME.out w9 HG9.out
   obtain ⟨v9, hv9, -⟩ := HG9.out.known a (b + 1) c (d + 1) ha32 hb32 hc32 hd32
   rw [<- HXX.out] at hv9
   have hf9 := HG9.out.fz X
   have HF : Hid (FarAt (w9.setCell ⟨mb, X, none⟩ (.int .i64 (zz : Int))) lo hi fb mb A B) := by
    show FarAt _ _ _ _ _ _ _
    rw [HXX.out, HZE.out]
    exact HG9.out.put ha32 hb32 hc32 hd32
   have HT10 : Hid (Turn (fun b => b = mb) w (w9.setCell ⟨mb, X, none⟩ (.int .i64 (zz : Int)))) := HT9.out.setCell (A := fun b => b = mb) (p := ⟨mb, X, none⟩) rfl _
   go_wp2
   go_ret
   exact ⟨congrArg (fun z : Nat => Ending.returned (.int .i64 (z : Int))) HZE.out, HT10.out, HF.out⟩
theorem dist_any (lo hi fb mb : Nat) (A B : List (Kn × Nat)) (hWA : WP A) (hWB : WP B) (hA : A.length <= 32) (hB : B.length <= 32) : ∀ n, DiAll lo hi fb mb A B n
 | 0 => fun w a b c d hm hab hcd hn => dist_base lo hi fb mb A B w a b c d hm hab hcd hA hB (.inl (by have := hab.le; omega))
 | n + 1 => fun w a b c d hm hab hcd hn => by
  by_cases e1 : a = b
  ·exact dist_base lo hi fb mb A B w a b c d hm hab hcd hA hB (.inl e1)
  ·by_cases e2 : c = d
   ·exact dist_base lo hi fb mb A B w a b c d hm hab hcd hA hB (.inr e2)
   ·obtain ⟨b', rfl⟩ : ∃ b', b = b' + 1 := ⟨b - 1, by have := hab.le; omega⟩
    obtain ⟨d', rfl⟩ : ∃ d', d = d' + 1 := ⟨d - 1, by have := hcd.le; omega⟩
    have := dist_step lo hi fb mb A B hWA hWB hA hB n (dist_any lo hi fb mb A B hWA hWB hA hB n) w a b' c d' hm hab hcd e1 e2 hn
    rw [show (((b' + 1 : Nat)) : Int) = (b' : Int) + 1 from by omega, show (((d' + 1 : Nat)) : Int) = (d' : Int) + 1 from by omega]
    exact this
end Go.Proofs.Ytmapmkogjhinmaa
