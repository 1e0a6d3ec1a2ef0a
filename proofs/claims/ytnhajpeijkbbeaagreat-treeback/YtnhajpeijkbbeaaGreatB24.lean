/- Spoil: a tree is spoilt. -/
import Derived.Test.YtnhajpeijkbbeaaGreatB23
namespace Go.Proofs.YtnhajpeijkbbeaaGreat
open Go.RowKit
set_option maxRecDepth 100000
set_option maxHeartbeats 4000000
set_option linter.unusedVariables false
set_option linter.unusedSimpArgs false
def SpP (R : Nat -> Prop) (w : World) (e : Ending) (w' : World) : Prop := e = .returned (.tuple #[]) /\ Sv R w w'
def SpAll (n : Nat) : Prop := ∀ (w : World) (R : Nat -> Prop) (v : Array Value), (∀ b, R b -> Wr w b) -> WT w R n v -> Calls Tryz.prog 41 #[.agg v] w (SpP R w)
theorem Sv.box {R : Nat -> Prop} {a b : World} (h : Sv R a b) {x : Nat} {cs : Array Value} (hx : IsCells a x cs) (hn : ¬ R x) : IsCells b x cs := hx.of_block (h.turn.block x hx.lt hn)
def KW (w : World) (R : Nat -> Prop) (n : Nat) (ka : Option Addr) (kl : Nat) : Prop := ∀ i, i < kl -> ∃ (b o : Nat) (u : Array Value), ka = some ⟨b, o, none⟩ /\ R b /\ u.size = 5 /\ (∀ j, j < 5 -> w.cell? ⟨b, o + i * 5 + j, none⟩ = u[j]?) /\ WT w R n u
theorem Sv.kw {R : Nat -> Prop} {w w' : World} (s : Sv R w w') (hR : ∀ b, R b -> Wr w b) {n : Nat} {ka : Option Addr} {kl : Nat} (h : KW w R n ka kl) (hk : kl <= maxK) : KW w' R n ka kl := by
 have h0 : WT w R (n + 1) #[.int .i64 0, .string ⟨#[]⟩, .slice none 0 0, .string ⟨#[]⟩, .slice ka kl kl] := ⟨_, _, _, _, _, _, _, _, _, rfl, Nat.zero_le _, hk, Nat.zero_le _, Nat.le_refl _, AW.nil _ _ _, h⟩
 obtain ⟨k1, nm1, a1, al1, ac1, tx1, ka1, kl1, kc1, e, g1, g2, g3, g4, g5, g6⟩ := s.wt hR h0
 simp only [Array.mk.injEq, List.cons.injEq, Value.int.injEq, Value.string.injEq, Value.slice.injEq, true_and, and_true] at e
 obtain ⟨rfl, rfl, ⟨rfl, rfl, rfl⟩, rfl, ⟨rfl, rfl, rfl⟩⟩ := e
 exact g6
theorem KW.get {w : World} {R : Nat -> Prop} {n : Nat} {ka : Option Addr} {kl : Nat} (h : KW w R n ka kl) {i : Nat} (hi : i < kl) : ∃ b o kk nm a al ac tx ka' kl' kc, ka = some ⟨b, o, none⟩ /\ R b /\ w.cell? ⟨b, o + i * 5, none⟩ = some (.int .i64 kk) /\ w.cell? ⟨b, o + i * 5 + 1, none⟩ = some (.string nm) /\ w.cell? ⟨b, o + i * 5 + 2, none⟩ = some (.slice a al ac) /\
   w.cell? ⟨b, o + i * 5 + 3, none⟩ = some (.string tx) /\ w.cell? ⟨b, o + i * 5 + 4, none⟩ = some (.slice ka' kl' kc) /\ WT w R n #[.int .i64 kk, .string nm, .slice a al ac, .string tx, .slice ka' kl' kc] := by
 obtain ⟨b, o, u, h1, h2, h4, h5, h6⟩ := h i hi
 obtain ⟨kk, nm, a, al, ac, tx, ka', kl', kc, rfl⟩ := h6.form
 exact ⟨b, o, kk, nm, a, al, ac, tx, ka', kl', kc, h1, h2, h5 0 (by omega), h5 1 (by omega), h5 2 (by omega), h5 3 (by omega), h5 4 (by omega), h6⟩
theorem spoilT_any : ∀ (n : Nat), SpAll n
 | 0 => fun _ _ _ _ h => h.elim
 | n + 1 => by
  intro w R v hR h
  have ih := spoilT_any n
  obtain ⟨k, nm, a, al, ac, tx, ka, kl, kc, rfl, h1, h2, h3, h4, h5, h6⟩ := h
  unfold maxA at h1
  have HIH : Hid (SpAll n) := ih
  have HKM : Hid (kl <= maxK) := h2
  unfold maxK at h2
  have HR : Hid (∀ b, R b -> Wr w b) := hR
  have HA : Hid (AW w R a al) := h5
  have HK : Hid (KW w R n ka kl) := h6
  have HX : Hid (¬ R w.heap.size) := fun hr => by have := (hR _ hr).lt; omega
  have HB0 : Hid (IsCells (w.alloc (.cells #[.int .i64 k, .string nm, .slice a al ac, .string tx, .slice ka kl kc] 46)) w.heap.size #[.int .i64 k, .string nm, .slice a al ac, .string tx, .slice ka kl kc]) := isCells_new _ _ _
  clear hR h5 h6 ih
  go_enter Tryz.func41, Tryz.ntmps41
  go_wp2
  go_loopw [2] (fun iv wr => ∃ i : Nat, i <= al /\ iv = .int .i64 (i : Int) /\ Hid (Sv R w wr) /\ Hid (IsCells wr w.heap.size #[.int .i64 k, .string nm, .slice a al ac, .string tx, .slice ka kl kc])) (fun iv _ => al - (intOf iv).toNat)
  case atStart => exact ⟨0, Nat.zero_le _, rfl, (Sv.refl _ _).alloc _, HB0⟩
  case round =>
   obtain ⟨i, hi, rfl, HS, HB⟩ := hrel
   have hbc := HB.out.cell
   have hbx := HB.out.lt
   by_cases hlt : i < al
   ·obtain ⟨b, o, x, y, ha, hb, hc1, hc2⟩ := HA.out i hlt
    subst ha
    have hwb := HS.out.wr b hb (HR.out b hb)
    have hf := hwb.frozen
    have hbl := hwb.lt
    obtain ⟨v1, hc1', hk1⟩ := HS.out.keep b _ _ hb (HR.out b hb) hc1
    obtain ⟨x', rfl⟩ := hk1.str
    obtain ⟨v2, hc2', hk2⟩ := HS.out.keep b _ _ hb (HR.out b hb) hc2
    obtain ⟨y', rfl⟩ := hk2.str
    have hne : ¬ w.heap.size = b := fun e => HX.out (e ▸ hb)
    have hne' : ¬ b = w.heap.size := fun e => hne e.symm
    have HS2 : Hid (∀ p q, Sv R w ((wr.setCell ⟨b, o + i * 2, none⟩ (.string p)).setCell ⟨b, o + i * 2 + 1, none⟩ (.string q))) := fun p q => (HS.out.put hb (HR.out b hb) hc1 (Bt.s _ _)).put hb (HR.out b hb) hc2 (Bt.s _ _)
    have HB2 : Hid (∀ p q, IsCells ((wr.setCell ⟨b, o + i * 2, none⟩ p).setCell ⟨b, o + i * 2 + 1, none⟩ q) w.heap.size #[.int .i64 k, .string nm, .slice (some ⟨b, o, none⟩) al ac, .string tx, .slice ka kl kc]) := fun p q => (HB.out.other (a := ⟨b, o + i * 2, none⟩) hne p).other (a := ⟨b, o + i * 2 + 1, none⟩) hne q
    clear hk1 hk2 hwb hc1 hc2 HB0
    go_wp2
    go_roundw
    case rel => exact ⟨i + 1, by omega, by go_num, HS2.out _ _, HB2.out _ _⟩
    case measure => simp [intOf]; omega
   ·clear HA
    go_wp2
    go_loopw [3] (fun iv wr => ∃ i : Nat, i <= kl /\ iv = .int .i64 (i : Int) /\ Hid (Sv R w wr) /\ Hid (IsCells wr w.heap.size #[.int .i64 k, .string nm, .slice a al ac, .string tx, .slice ka kl kc])) (fun iv _ => kl - (intOf iv).toNat)
    case atStart => exact ⟨0, Nat.zero_le _, rfl, HS, HB⟩
    case round =>
     clear HS HB hbc hbx HB0
     obtain ⟨i', hi', rfl, HS, HB⟩ := hrel
     have hbc := HB.out.cell
     have hbx := HB.out.lt
     by_cases hlt' : i' < kl
     ·have HKr : Hid (KW _ R n ka kl) := HS.out.kw HR.out HK.out HKM.out
      obtain ⟨b, o, kk, nm', a', al', ac', tx', ka2, kl2, kc2, e, hb, c0, c1, c2, c3, c4, htr⟩ := HKr.out.get hlt'
      subst e
      have HRr : Hid (∀ b, R b -> Wr _ b) := fun b hb => HS.out.wr b hb (HR.out b hb)
      have hcall := HIH.out _ R _ HRr.out htr
      have hwb := HRr.out b hb
      have hf := hwb.frozen
      have hbl := hwb.lt
      have hne : ¬ w.heap.size = b := fun e => HX.out (e ▸ hb)
      have hne' : ¬ b = w.heap.size := fun e => hne e.symm
      have HC : Hid _ := And.intro c0 (And.intro c1 (And.intro c2 (And.intro c3 c4)))
      go_wp2_with fail
      refine hcall.mono ?_
      rintro e w2 ⟨rfl, hs2⟩
      have HS2 : Hid (Sv R _ w2) := hs2
      have hbc2 := (hs2.box HB.out HX.out).cell
      have HB2 : Hid (IsCells w2 _ _) := hs2.box HB.out HX.out
      have hwb2 := hs2.wr b hb hwb
      have hf2 := hwb2.frozen
      have hbl2 := hwb2.lt
      have hbx2 := HB2.out.lt
      obtain ⟨v0, d0, k0⟩ := hs2.keep b _ _ hb hwb c0
      obtain ⟨v1, d1, k1⟩ := hs2.keep b _ _ hb hwb c1
      obtain ⟨v2, d2, k2⟩ := hs2.keep b _ _ hb hwb c2
      obtain ⟨v3, d3, k3⟩ := hs2.keep b _ _ hb hwb c3
      obtain ⟨v4, d4, k4⟩ := hs2.keep b _ _ hb hwb c4
      have HS3 : Hid (∀ p q r, Sv R w (((((w2.setCell ⟨b, o + i' * 5, none⟩ (.int .i64 p)).setCell ⟨b, o + i' * 5 + 1, none⟩ (.string q)).setCell ⟨b, o + i' * 5 + 2, none⟩ (.slice none 0 0)).setCell ⟨b, o + i' * 5 + 3, none⟩ (.string r)).setCell ⟨b, o + i' * 5 + 4, none⟩ (.slice none 0 0))) := fun p q r => HS.out.trans (((((hs2.put hb hwb c0 (Bt.i _ _ _)).put hb hwb c1 (Bt.s _ _)).put hb hwb c2 (Bt.l _ _ _)).put hb hwb c3 (Bt.s _ _)).put hb hwb c4 (Bt.l _ _ _))
      have HB3 : Hid (∀ p q r s t, IsCells (((((w2.setCell ⟨b, o + i' * 5, none⟩ p).setCell ⟨b, o + i' * 5 + 1, none⟩ q).setCell ⟨b, o + i' * 5 + 2, none⟩ r).setCell ⟨b, o + i' * 5 + 3, none⟩ s).setCell ⟨b, o + i' * 5 + 4, none⟩ t) w.heap.size #[.int .i64 k, .string nm, .slice a al ac, .string tx, .slice (some ⟨b, o, none⟩) kl kc]) := fun p q r s t => ((((HB2.out.other (a := ⟨b, o + i' * 5, none⟩) hne p).other (a := ⟨b, o + i' * 5 + 1, none⟩) hne q).other (a := ⟨b, o + i' * 5 + 2, none⟩) hne r).other (a := ⟨b, o + i' * 5 + 3, none⟩) hne s).other (a := ⟨b, o + i' * 5 + 4, none⟩) hne t
      clear hs2 k0 k1 k2 k3 k4 c0 c1 c2 c3 c4 htr HS HB HC hwb hwb2 hf hbl hbc hbx HRr HKr HIH hcall HS2 HB2
      go_wp2
      go_roundw
      case rel => exact ⟨i' + 1, by omega, by go_num, HS3.out _ _ _, HB3.out _ _ _ _ _⟩
      case measure => simp [intOf]; omega
     ·clear HK HIH
      go_wp2
      go_end0
      exact ⟨rfl, HS.out⟩
def SW (w : World) (R : Nat -> Prop) (sa : Option Addr) (n : Nat) : Prop :=
 ∀ i, i < n -> ∃ b o gn lv kd nm aa al ac tx pa ka kl kc, sa = some ⟨b, o, none⟩ /\ R b /\ w.cell? ⟨b, o + i * 8, none⟩ = some (.int .u32 gn) /\ w.cell? ⟨b, o + i * 8 + 1, none⟩ = some (.bool lv) /\ w.cell? ⟨b, o + i * 8 + 2, none⟩ = some (.int .i64 kd) /\ w.cell? ⟨b, o + i * 8 + 3, none⟩ = some (.string nm) /\
  w.cell? ⟨b, o + i * 8 + 4, none⟩ = some (.slice aa al ac) /\ w.cell? ⟨b, o + i * 8 + 5, none⟩ = some (.string tx) /\ w.cell? ⟨b, o + i * 8 + 6, none⟩ = some (.int .u64 pa) /\ w.cell? ⟨b, o + i * 8 + 7, none⟩ = some (.slice ka kl kc) /\
  al <= ac /\ kl <= kc /\ al < 4611686018427387904 /\ kl < 4611686018427387904 /\ AW w R aa al /\ HW w R ka kl
theorem Sv.sw {R : Nat -> Prop} {w w' : World} (s : Sv R w w') (hR : ∀ b, R b -> Wr w b) {sa : Option Addr} {n : Nat} (h : SW w R sa n) : SW w' R sa n := by
 intro i hi
 obtain ⟨b, o, gn, lv, kd, nm, aa, al, ac, tx, pa, ka, kl, kc, h1, h2, c0, c1, c2, c3, c4, c5, c6, c7, l1, l2, m1, m2, ha, hk⟩ := h i hi
 obtain ⟨v0, d0, k0⟩ := s.keep _ _ _ h2 (hR b h2) c0
 obtain ⟨v1, d1, k1⟩ := s.keep _ _ _ h2 (hR b h2) c1
 obtain ⟨v2, d2, k2⟩ := s.keep _ _ _ h2 (hR b h2) c2
 obtain ⟨v3, d3, k3⟩ := s.keep _ _ _ h2 (hR b h2) c3
 obtain ⟨v4, d4, k4⟩ := s.keep _ _ _ h2 (hR b h2) c4
 obtain ⟨v5, d5, k5⟩ := s.keep _ _ _ h2 (hR b h2) c5
 obtain ⟨v6, d6, k6⟩ := s.keep _ _ _ h2 (hR b h2) c6
 obtain ⟨v7, d7, k7⟩ := s.keep _ _ _ h2 (hR b h2) c7
 obtain ⟨x0, rfl⟩ := k0.int
 obtain ⟨x1, rfl⟩ := k1.bool
 obtain ⟨x2, rfl⟩ := k2.int
 obtain ⟨x3, rfl⟩ := k3.str
 obtain ⟨x5, rfl⟩ := k5.str
 obtain ⟨x6, rfl⟩ := k6.int
 have ha' := s.aw hR ha
 have hk' := s.hw hR hk
 rcases k4.slice with rfl | rfl <;> rcases k7.slice with rfl | rfl
 ·exact ⟨b, o, _, _, _, _, _, _, _, _, _, _, _, _, h1, h2, d0, d1, d2, d3, d4, d5, d6, d7, l1, l2, m1, m2, ha', hk'⟩
 ·exact ⟨b, o, _, _, _, _, _, _, _, _, _, _, _, _, h1, h2, d0, d1, d2, d3, d4, d5, d6, d7, l1, Nat.le_refl _, m1, by omega, ha', HW.nil _ _ _⟩
 ·exact ⟨b, o, _, _, _, _, _, _, _, _, _, _, _, _, h1, h2, d0, d1, d2, d3, d4, d5, d6, d7, Nat.le_refl _, l2, by omega, m2, AW.nil _ _ _, hk'⟩
 ·exact ⟨b, o, _, _, _, _, _, _, _, _, _, _, _, _, h1, h2, d0, d1, d2, d3, d4, d5, d6, d7, Nat.le_refl _, Nat.le_refl _, by omega, by omega, AW.nil _ _ _, HW.nil _ _ _⟩
theorem SlotsAt.weak {w : World} {R : Nat -> Prop} {a : Option Addr} {S : List Sl} (h : SlotsAt w R a S) (hs : ∀ s ∈ S, s.attrs.length < 4611686018427387904 /\ s.kids.length < 4611686018427387904) : SW w R a S.length := by
 intro i hi
 obtain ⟨b, o, h1, h2, aa, ac, ka, kc, c0, c1, c2, c3, c4, c5, c6, c7, l1, l2, ha, hk⟩ := h i _ (List.getElem?_eq_getElem hi)
 obtain ⟨m1, m2⟩ := hs _ (List.getElem_mem hi)
 exact ⟨b, o, _, _, _, _, _, _, _, _, _, _, _, _, h1, h2, c0, c1, c2, c3, c4, c5, c6, c7, l1, l2, m1, m2, ha.weak, hk.weak⟩
theorem spoilI_any (w : World) (R : Nat -> Prop) (sa : Option Addr) (n sc : Nat) (ra : Option Addr) (m rc : Nat) (hR : ∀ b, R b -> Wr w b) (h : SW w R sa n) (hr : HW w R ra m) (hn : n < 4611686018427387904) (hm : m < 4611686018427387904) : Calls Tryz.prog 58 #[.agg #[.slice sa n sc, .slice ra m rc]] w (SpP R w) := by
 have HS0 : Hid (SW w R sa n) := h
 have HRT : Hid (HW w R ra m) := hr
 have HR : Hid (∀ b, R b -> Wr w b) := hR
 have HX : Hid (¬ R w.heap.size) := fun hr => by have := (hR _ hr).lt; omega
 have HB0 : Hid (IsCells (w.alloc (.cells #[.slice sa n sc, .slice ra m rc] 25)) w.heap.size #[.slice sa n sc, .slice ra m rc]) := isCells_new _ _ _
 clear h hr hR
 go_enter Tryz.func58, Tryz.ntmps58
 go_wp2
 go_loopw [2] (fun iv wr => ∃ i : Nat, i <= n /\ iv = .int .i64 (i : Int) /\ Hid (Sv R w wr) /\ Hid (IsCells wr w.heap.size #[.slice sa n sc, .slice ra m rc])) (fun iv _ => n - (intOf iv).toNat)
 case atStart => exact ⟨0, Nat.zero_le _, rfl, (Sv.refl _ _).alloc _, HB0⟩
 case round =>
  obtain ⟨i, hi, rfl, HS, HB⟩ := hrel
  have hbc := HB.out.cell
  have hbx := HB.out.lt
  by_cases hlt : i < n
  ·clear HB0
   go_wp2
   go_loopw [3] (fun jv wr => ∃ j : Nat, j <= 4611686018427387904 /\ jv = .int .i64 (j : Int) /\ Hid (Sv R w wr) /\ Hid (IsCells wr w.heap.size #[.slice sa n sc, .slice ra m rc])) (fun jv _ => 4611686018427387904 - (intOf jv).toNat)
   case atStart => exact ⟨0, Nat.zero_le _, rfl, HS, HB⟩
   case round =>
    clear HS HB hbc hbx
    obtain ⟨j, hj, rfl, HS, HB⟩ := hrel
    have hbc := HB.out.cell
    have hbx := HB.out.lt
    obtain ⟨b, o, gn, lv, kd, nm, aa, al, ac, tx, pa, ka, kl, kc, e, hb, c0, c1, c2, c3, c4, c5, c6, c7, l1, l2, m1, m2, haw, hkw⟩ := HS.out.sw HR.out HS0.out i hlt
    subst e
    have hwb := HS.out.wr b hb (HR.out b hb)
    have hf := hwb.frozen
    have hbl := hwb.lt
    have hne : ¬ w.heap.size = b := fun e => HX.out (e ▸ hb)
    have hne' : ¬ b = w.heap.size := fun e => hne e.symm
    by_cases hlj : j < al
    ·obtain ⟨b2, o2, x, y, e, hb2, d1, d2⟩ := haw j hlj
     subst e
     have hwb2 := HS.out.wr b2 hb2 (HR.out b2 hb2)
     have hf2 := hwb2.frozen
     have hbl2 := hwb2.lt
     have hne2 : ¬ w.heap.size = b2 := fun e => HX.out (e ▸ hb2)
     have hne2' : ¬ b2 = w.heap.size := fun e => hne2 e.symm
     have HS2 : Hid (∀ p q, Sv R w ((_ : World).setCell ⟨b2, o2 + j * 2, none⟩ (.string p) |>.setCell ⟨b2, o2 + j * 2 + 1, none⟩ (.string q))) := fun p q => HS.out.trans (((Sv.refl R _).put hb2 hwb2 d1 (Bt.s _ p)).put hb2 hwb2 d2 (Bt.s _ q))
     have HB2 : Hid (∀ p q, IsCells ((_ : World).setCell ⟨b2, o2 + j * 2, none⟩ p |>.setCell ⟨b2, o2 + j * 2 + 1, none⟩ q) w.heap.size #[.slice (some ⟨b, o, none⟩) n sc, .slice ra m rc]) := fun p q => (HB.out.other (a := ⟨b2, o2 + j * 2, none⟩) hne2 p).other (a := ⟨b2, o2 + j * 2 + 1, none⟩) hne2 q
     clear haw hkw hwb hwb2
     go_wp2
     go_roundw
     case rel => exact ⟨j + 1, by omega, by go_num, HS2.out _ _, HB2.out _ _⟩
     case measure => simp [intOf]; omega
    ·have HRr : Hid (∀ b, R b -> Wr _ b) := fun b hb => HS.out.wr b hb (HR.out b hb)
     have hcall := spoil_any _ R ka kl kc HRr.out hkw m2
     clear haw hkw
     go_wp2_with fail
     refine hcall.mono ?_
     rintro e w2 ⟨rfl, hs2⟩
     have HB2 : Hid (IsCells w2 _ _) := hs2.box HB.out HX.out
     have hbc2 := HB2.out.cell
     have hbx2 := HB2.out.lt
     have hwb2 := hs2.wr b hb hwb
     have hf2 := hwb2.frozen
     have hbl2 := hwb2.lt
     obtain ⟨v0, d0, k0⟩ := hs2.keep b _ _ hb hwb c0
     obtain ⟨v1, d1, k1⟩ := hs2.keep b _ _ hb hwb c1
     obtain ⟨v2, d2, k2⟩ := hs2.keep b _ _ hb hwb c2
     obtain ⟨v3, d3, k3⟩ := hs2.keep b _ _ hb hwb c3
     obtain ⟨v4, d4, k4⟩ := hs2.keep b _ _ hb hwb c4
     obtain ⟨v5, d5, k5⟩ := hs2.keep b _ _ hb hwb c5
     obtain ⟨v6, d6, k6⟩ := hs2.keep b _ _ hb hwb c6
     obtain ⟨v7, d7, k7⟩ := hs2.keep b _ _ hb hwb c7
     have HS3 : Hid (∀ p0 p1 p2 p3 p5 p6, Sv R w ((((((((w2.setCell ⟨b, o + i * 8, none⟩ (.int .u32 p0)).setCell ⟨b, o + i * 8 + 1, none⟩ (.bool p1)).setCell ⟨b, o + i * 8 + 2, none⟩ (.int .i64 p2)).setCell ⟨b, o + i * 8 + 3, none⟩ (.string p3)).setCell ⟨b, o + i * 8 + 4, none⟩ (.slice none 0 0)).setCell ⟨b, o + i * 8 + 5, none⟩ (.string p5)).setCell ⟨b, o + i * 8 + 6, none⟩ (.int .u64 p6)).setCell ⟨b, o + i * 8 + 7, none⟩ (.slice none 0 0))) := fun p0 p1 p2 p3 p5 p6 => HS.out.trans ((((((((hs2.put hb hwb c0 (Bt.i _ _ _)).put hb hwb c1 (Bt.b _ _)).put hb hwb c2 (Bt.i _ _ _)).put hb hwb c3 (Bt.s _ _)).put hb hwb c4 (Bt.l _ _ _)).put hb hwb c5 (Bt.s _ _)).put hb hwb c6 (Bt.i _ _ _)).put hb hwb c7 (Bt.l _ _ _))
     have HB3 : Hid (∀ p0 p1 p2 p3 p4 p5 p6 p7, IsCells ((((((((w2.setCell ⟨b, o + i * 8, none⟩ p0).setCell ⟨b, o + i * 8 + 1, none⟩ p1).setCell ⟨b, o + i * 8 + 2, none⟩ p2).setCell ⟨b, o + i * 8 + 3, none⟩ p3).setCell ⟨b, o + i * 8 + 4, none⟩ p4).setCell ⟨b, o + i * 8 + 5, none⟩ p5).setCell ⟨b, o + i * 8 + 6, none⟩ p6).setCell ⟨b, o + i * 8 + 7, none⟩ p7) w.heap.size #[.slice (some ⟨b, o, none⟩) n sc, .slice ra m rc]) := fun p0 p1 p2 p3 p4 p5 p6 p7 => (((((((HB2.out.other (a := ⟨b, o + i * 8, none⟩) hne p0).other (a := ⟨b, o + i * 8 + 1, none⟩) hne p1).other (a := ⟨b, o + i * 8 + 2, none⟩) hne p2).other (a := ⟨b, o + i * 8 + 3, none⟩) hne p3).other (a := ⟨b, o + i * 8 + 4, none⟩) hne p4).other (a := ⟨b, o + i * 8 + 5, none⟩) hne p5).other (a := ⟨b, o + i * 8 + 6, none⟩) hne p6).other (a := ⟨b, o + i * 8 + 7, none⟩) hne p7
     clear hs2 k0 k1 k2 k3 k4 k5 k6 k7 c0 c1 c2 c3 c4 c5 c6 c7 HS HB hwb hwb2 hf hbl hbc hbx HRr hcall HB2
     go_wp2
     go_roundw
     case rel => exact ⟨i + 1, by omega, by go_num, HS3.out _ _ _ _ _ _, HB3.out _ _ _ _ _ _ _ _⟩
     case measure => simp [intOf]; omega
  ·have HRr : Hid (∀ b, R b -> Wr _ b) := fun b hb => HS.out.wr b hb (HR.out b hb)
   have hcall := spoil_any _ R ra m rc HRr.out (HS.out.hw HR.out HRT.out) hm
   clear HS0 HRT
   go_wp2_with fail
   refine hcall.mono ?_
   rintro e w2 ⟨rfl, hs2⟩
   have HS2 : Hid (Sv R w w2) := HS.out.trans hs2
   clear hcall hs2
   go_wp2
   go_end0
   exact ⟨rfl, HS2.out⟩
def scs (s : Sl) (aa : Option Addr) (ac : Nat) (ka : Option Addr) (kc : Nat) : Array Value := #[.int .u32 (s.gen : Int), .bool s.live, .int .i64 s.kind, .string s.name, .slice aa s.attrs.length ac, .string s.text, .int .u64 (s.parent : Int), .slice ka s.kids.length kc]
def Two (z wx : World) (X Y : Nat) (a b : Array Value) : Prop := Below z.heap.size z wx /\ IsCells wx X a /\ IsCells wx Y b
theorem two_ab (z : World) (a b : Array Value) : Two z ((z.alloc (.cells a 75)).alloc (.cells b 75)).drew z.heap.size (z.heap.size + 1) a b := by
 refine ⟨((below_new' z _).alloc (by simp) _).drew, ((isCells_new z _ _).alloc _).of_block rfl, ?_⟩
 have c := isCells_new (z.alloc (.cells a 75)) b 75
 rw [show (z.alloc (.cells a 75)).heap.size = z.heap.size + 1 from by simp] at c
 exact c.of_block rfl
theorem two_ba (z : World) (a b : Array Value) : Two z ((z.alloc (.cells b 75)).alloc (.cells a 75)).drew (z.heap.size + 1) z.heap.size a b :=
 ⟨(two_ab z b a).1, (two_ab z b a).2.2, (two_ab z b a).2.1⟩
theorem images_same (w : World) (R R' : Nat -> Prop) (D : Dc) (sa sa' ra ra' : Option Addr) (sc sc' rc rc' : Nat) (h : SlotsAt w R sa D.S) (h' : SlotsAt w R' sa' D.S) (g : HandsAt w R ra D.roots) (g' : HandsAt w R' ra' D.roots) (hR : ∀ b, R b -> b < w.heap.size) (hR' : ∀ b, R' b -> b < w.heap.size)
  (hl : D.S.length <= 4398046511104) (hr : D.roots.length <= 4398046511104) (hs : ∀ s ∈ D.S, s.attrs.length <= 4398046511104 /\ s.kids.length <= 4398046511104) :
  Calls Tryz.prog 26 #[.agg #[.slice sa D.S.length sc, .slice ra D.roots.length rc], .agg #[.slice sa' D.S.length sc', .slice ra' D.roots.length rc']] w fun e w' => e = .returned (.bool true) /\ Below w.heap.size w w' := by
 have HS1 : Hid (SlotsAt w R sa D.S) := h
 have HS2 : Hid (SlotsAt w R' sa' D.S) := h'
 have HR : Hid (∀ b, R b -> b < w.heap.size) := hR
 have HR' : Hid (∀ b, R' b -> b < w.heap.size) := hR'
 have HSL : Hid (∀ s ∈ D.S, s.attrs.length <= 4398046511104 /\ s.kids.length <= 4398046511104) := hs
 have HH : Hid (∀ W, Below w.heap.size w W -> Calls Tryz.prog 53 #[.slice ra D.roots.length rc, .slice ra' D.roots.length rc'] W fun e w' => e = .returned (.bool true) /\ Below W.heap.size W w') := fun W hb =>
  handles_same W R R' ra ra' D.roots rc rc' (g.to (fun _ h => h) (fun b o hb' => hb.cell (p := ⟨b, o, none⟩) (hR b hb'))) (g'.to (fun _ h => h) (fun b o hb' => hb.cell (p := ⟨b, o, none⟩) (hR' b hb'))) (fun b hb' => Nat.lt_of_lt_of_le (hR b hb') hb.size) (fun b hb' => Nat.lt_of_lt_of_le (hR' b hb') hb.size) hr
 have HB0 : Hid (Below w.heap.size w ((w.alloc (.cells #[.slice sa D.S.length sc, .slice ra D.roots.length rc] 25)).alloc (.cells #[.slice sa' D.S.length sc', .slice ra' D.roots.length rc'] 25))) := (below_new' w _).alloc (by simp) _
 have HX0 : Hid (IsCells ((w.alloc (.cells #[.slice sa D.S.length sc, .slice ra D.roots.length rc] 25)).alloc (.cells #[.slice sa' D.S.length sc', .slice ra' D.roots.length rc'] 25)) w.heap.size #[.slice sa D.S.length sc, .slice ra D.roots.length rc]) := (isCells_new w _ _).alloc _
 have HY0 : Hid (IsCells ((w.alloc (.cells #[.slice sa D.S.length sc, .slice ra D.roots.length rc] 25)).alloc (.cells #[.slice sa' D.S.length sc', .slice ra' D.roots.length rc'] 25)) (w.heap.size + 1) #[.slice sa' D.S.length sc', .slice ra' D.roots.length rc']) := by
  have := isCells_new (w.alloc (.cells #[.slice sa D.S.length sc, .slice ra D.roots.length rc] 25)) #[.slice sa' D.S.length sc', .slice ra' D.roots.length rc'] 25
  rw [show (w.alloc (.cells #[.slice sa D.S.length sc, .slice ra D.roots.length rc] 25)).heap.size = w.heap.size + 1 from by simp] at this
  exact this
 clear h h' g g' hR hR' hs
 go_enter Tryz.func26, Tryz.ntmps26
 go_wp2_with fail
 refine (HH.out _ HB0.out).mono ?_
 rintro e w1 ⟨rfl, hb1⟩
 have HX1 : Hid (IsCells w1 w.heap.size #[.slice sa D.S.length sc, .slice ra D.roots.length rc]) := HX0.out.of_block (hb1.block _ HX0.out.lt)
 have HY1 : Hid (IsCells w1 (w.heap.size + 1) #[.slice sa' D.S.length sc', .slice ra' D.roots.length rc']) := HY0.out.of_block (hb1.block _ HY0.out.lt)
 have HB1 : Hid (Below w.heap.size w w1) := HB0.out.trans (hb1.mono (by simp; omega))
 have hc1 := HX1.out.cell
 have hd1 := HY1.out.cell
 have hl1 := HX1.out.lt
 have hl2 := HY1.out.lt
 clear hb1 HB0 HX0 HY0 HH
 go_wp2
 go_loopw [5] (fun iv wr => ∃ i : Nat, i <= D.S.length /\ iv = .int .i64 (i : Int) /\ Hid (Below w.heap.size w wr) /\ Hid (IsCells wr w.heap.size #[.slice sa D.S.length sc, .slice ra D.roots.length rc]) /\ Hid (IsCells wr (w.heap.size + 1) #[.slice sa' D.S.length sc', .slice ra' D.roots.length rc'])) (fun iv _ => D.S.length - (intOf iv).toNat)
 case atStart => exact ⟨0, Nat.zero_le _, rfl, HB1, HX1, HY1⟩
 case round =>
  clear hc1 hd1 hl1 hl2 HB1 HX1 HY1
  obtain ⟨i, hi, rfl, HB, HX, HY⟩ := hrel
  have hl1 := HX.out.lt
  have hl2 := HY.out.lt
  by_cases hlt : i < D.S.length
  ·obtain ⟨s, hsi⟩ : ∃ s, D.S[i]? = some s := ⟨_, List.getElem?_eq_getElem hlt⟩
   obtain ⟨b, o, e, hb, aa, ac, ka, kc, c0, c1, c2, c3, c4, c5, c6, c7, l1, l2, ha, hk⟩ := HS1.out i s hsi
   subst e
   obtain ⟨b', o', e, hb', aa', ac', ka', kc', d0, d1, d2, d3, d4, d5, d6, d7, l1', l2', ha', hk'⟩ := HS2.out i s hsi
   subst e
   obtain ⟨m1, m2⟩ := HSL.out s (List.mem_of_getElem? hsi)
   obtain ⟨z, hz⟩ : ∃ z, z = wr := ⟨_, rfl⟩
   subst hz
   have hbz : b < z.heap.size := Nat.lt_of_lt_of_le (HR.out b hb) HB.out.size
   have hbz' : b' < z.heap.size := Nat.lt_of_lt_of_le (HR'.out b' hb') HB.out.size
   have x0 := (HB.out.cell (p := ⟨b, _, none⟩) (HR.out b hb)).trans c0
   have x1 := (HB.out.cell (p := ⟨b, _, none⟩) (HR.out b hb)).trans c1
   have x2 := (HB.out.cell (p := ⟨b, _, none⟩) (HR.out b hb)).trans c2
   have x3 := (HB.out.cell (p := ⟨b, _, none⟩) (HR.out b hb)).trans c3
   have x4 := (HB.out.cell (p := ⟨b, _, none⟩) (HR.out b hb)).trans c4
   have x5 := (HB.out.cell (p := ⟨b, _, none⟩) (HR.out b hb)).trans c5
   have x6 := (HB.out.cell (p := ⟨b, _, none⟩) (HR.out b hb)).trans c6
   have x7 := (HB.out.cell (p := ⟨b, _, none⟩) (HR.out b hb)).trans c7
   have y0 := (HB.out.cell (p := ⟨b', _, none⟩) (HR'.out b' hb')).trans d0
   have y1 := (HB.out.cell (p := ⟨b', _, none⟩) (HR'.out b' hb')).trans d1
   have y2 := (HB.out.cell (p := ⟨b', _, none⟩) (HR'.out b' hb')).trans d2
   have y3 := (HB.out.cell (p := ⟨b', _, none⟩) (HR'.out b' hb')).trans d3
   have y4 := (HB.out.cell (p := ⟨b', _, none⟩) (HR'.out b' hb')).trans d4
   have y5 := (HB.out.cell (p := ⟨b', _, none⟩) (HR'.out b' hb')).trans d5
   have y6 := (HB.out.cell (p := ⟨b', _, none⟩) (HR'.out b' hb')).trans d6
   have y7 := (HB.out.cell (p := ⟨b', _, none⟩) (HR'.out b' hb')).trans d7
   have p0 : z.cell? ⟨w.heap.size, 0, none⟩ = some (.slice (some ⟨b, o, none⟩) D.S.length sc) := HX.out.cell 0
   have q0 : z.cell? ⟨w.heap.size + 1, 0, none⟩ = some (.slice (some ⟨b', o', none⟩) D.S.length sc') := HY.out.cell 0
   have HAT : Hid (∀ W, Below w.heap.size w W -> Calls Tryz.prog 48 #[.slice aa s.attrs.length ac, .slice aa' s.attrs.length ac'] W fun e w' => e = .returned (.bool true) /\ Below W.heap.size W w') := fun W hbw =>
    attrs_same W R R' aa aa' s.attrs ac ac' (ha.to (fun _ h => h) (fun b o hb' => hbw.cell (p := ⟨b, o, none⟩) (HR.out b hb'))) (ha'.to (fun _ h => h) (fun b o hb' => hbw.cell (p := ⟨b, o, none⟩) (HR'.out b hb'))) (fun b hb' => Nat.lt_of_lt_of_le (HR.out b hb') hbw.size) (fun b hb' => Nat.lt_of_lt_of_le (HR'.out b hb') hbw.size) m1
   have HKT : Hid (∀ W, Below w.heap.size w W -> Calls Tryz.prog 53 #[.slice ka s.kids.length kc, .slice ka' s.kids.length kc'] W fun e w' => e = .returned (.bool true) /\ Below W.heap.size W w') := fun W hbw =>
    handles_same W R R' ka ka' s.kids kc kc' (hk.to (fun _ h => h) (fun b o hb' => hbw.cell (p := ⟨b, o, none⟩) (HR.out b hb'))) (hk'.to (fun _ h => h) (fun b o hb' => hbw.cell (p := ⟨b, o, none⟩) (HR'.out b hb'))) (fun b hb' => Nat.lt_of_lt_of_le (HR.out b hb') hbw.size) (fun b hb' => Nat.lt_of_lt_of_le (HR'.out b hb') hbw.size) m2
   clear c0 c1 c2 c3 c4 c5 c6 c7 d0 d1 d2 d3 d4 d5 d6 d7 ha ha' hk hk' hb hb' hsi HS1 HS2 HR HR' HSL
   go_upto_region 6 with fail
   go_cut [6, 7] (fun p q wx => ∃ X Y, p = .pointer (some ⟨X, 0, none⟩) /\ q = .pointer (some ⟨Y, 0, none⟩) /\ Hid (Two z wx X Y (scs s aa ac ka kc) (scs s aa' ac' ka' kc')))
   case first =>
    go_region_held3 (fun W => W.cell? ⟨w.heap.size, 0, none⟩ = some (.slice (some ⟨b, o, none⟩) D.S.length sc) /\ W.cell? ⟨w.heap.size + 1, 0, none⟩ = some (.slice (some ⟨b', o', none⟩) D.S.length sc') /\ W.cell? ⟨b, o + i * 8, none⟩ = some (.int .u32 (s.gen : Int)) /\ W.cell? ⟨b, o + i * 8 + 1, none⟩ = some (.bool s.live) /\ W.cell? ⟨b, o + i * 8 + 2, none⟩ = some (.int .i64 s.kind) /\ W.cell? ⟨b, o + i * 8 + 3, none⟩ = some (.string s.name) /\ W.cell? ⟨b, o + i * 8 + 4, none⟩ = some (.slice aa s.attrs.length ac) /\ W.cell? ⟨b, o + i * 8 + 5, none⟩ = some (.string s.text) /\ W.cell? ⟨b, o + i * 8 + 6, none⟩ = some (.int .u64 (s.parent : Int)) /\ W.cell? ⟨b, o + i * 8 + 7, none⟩ = some (.slice ka s.kids.length kc) /\ W.cell? ⟨b', o' + i * 8, none⟩ = some (.int .u32 (s.gen : Int)) /\ W.cell? ⟨b', o' + i * 8 + 1, none⟩ = some (.bool s.live) /\ W.cell? ⟨b', o' + i * 8 + 2, none⟩ = some (.int .i64 s.kind) /\ W.cell? ⟨b', o' + i * 8 + 3, none⟩ = some (.string s.name) /\ W.cell? ⟨b', o' + i * 8 + 4, none⟩ = some (.slice aa' s.attrs.length ac') /\ W.cell? ⟨b', o' + i * 8 + 5, none⟩ = some (.string s.text) /\ W.cell? ⟨b', o' + i * 8 + 6, none⟩ = some (.int .u64 (s.parent : Int)) /\ W.cell? ⟨b', o' + i * 8 + 7, none⟩ = some (.slice ka' s.kids.length kc')) (go_keep) (fail)
    all_goals
     go_wp2_with fail
     go_meet
     first | exact ⟨_, _, rfl, rfl, two_ab z (scs s aa ac ka kc) (scs s aa' ac' ka' kc')⟩ | exact ⟨_, _, rfl, rfl, two_ba z (scs s aa ac ka kc) (scs s aa' ac' ka' kc')⟩
   case rest =>
    obtain ⟨X, Y, rfl, rfl, HT⟩ := hcut
    clear x0 x1 x2 x3 x4 x5 x6 x7 y0 y1 y2 y3 y4 y5 y6 y7 p0 q0
    have hXl : X < wc.heap.size := HT.out.2.1.lt
    have hYl : Y < wc.heap.size := HT.out.2.2.lt
    have HXc : Hid (IsCells wc X (scs s aa ac ka kc)) := HT.out.2.1
    have HYc : Hid (IsCells wc Y (scs s aa' ac' ka' kc')) := HT.out.2.2
    have HB2 : Hid (Below w.heap.size w wc) := HB.out.trans (HT.out.1.mono HB.out.size)
    have HX2 : Hid (IsCells wc w.heap.size #[.slice (some ⟨b, o, none⟩) D.S.length sc, .slice ra D.roots.length rc]) := HX.out.of_block (HT.out.1.block _ hl1)
    have HY2 : Hid (IsCells wc (w.heap.size + 1) #[.slice (some ⟨b', o', none⟩) D.S.length sc', .slice ra' D.roots.length rc']) := HY.out.of_block (HT.out.1.block _ hl2)
    clear HT HB HX HY
    have hcx := HXc.out.cell
    have hcy := HYc.out.cell
    unfold scs at hcx hcy
    have hat := HAT.out wc HB2.out
    go_wp2_with fail
    refine hat.mono ?_
    rintro e w2 ⟨rfl, hb2⟩
    have hXl2 : X < w2.heap.size := Nat.lt_of_lt_of_le hXl hb2.size
    have hYl2 : Y < w2.heap.size := Nat.lt_of_lt_of_le hYl hb2.size
    have HXd : Hid (IsCells w2 X (scs s aa ac ka kc)) := HXc.out.of_block (hb2.block _ hXl)
    have HYd : Hid (IsCells w2 Y (scs s aa' ac' ka' kc')) := HYc.out.of_block (hb2.block _ hYl)
    have HB3 : Hid (Below w.heap.size w w2) := HB2.out.trans (hb2.mono HB2.out.size)
    have HX3 : Hid (IsCells w2 w.heap.size #[.slice (some ⟨b, o, none⟩) D.S.length sc, .slice ra D.roots.length rc]) := HX2.out.of_block (hb2.block _ HX2.out.lt)
    have HY3 : Hid (IsCells w2 (w.heap.size + 1) #[.slice (some ⟨b', o', none⟩) D.S.length sc', .slice ra' D.roots.length rc']) := HY2.out.of_block (hb2.block _ HY2.out.lt)
    clear hcx hcy hat HB2 HX2 HY2 HXc HYc
    have hcx := HXd.out.cell
    have hcy := HYd.out.cell
    unfold scs at hcx hcy
    have hkt := HKT.out w2 HB3.out
    go_wp2_with fail
    refine hkt.mono ?_
    rintro e w3 ⟨rfl, hb3⟩
    have HB4 : Hid (Below w.heap.size w w3) := HB3.out.trans (hb3.mono HB3.out.size)
    have HX4 : Hid (IsCells w3 w.heap.size #[.slice (some ⟨b, o, none⟩) D.S.length sc, .slice ra D.roots.length rc]) := HX3.out.of_block (hb3.block _ HX3.out.lt)
    have HY4 : Hid (IsCells w3 (w.heap.size + 1) #[.slice (some ⟨b', o', none⟩) D.S.length sc', .slice ra' D.roots.length rc']) := HY3.out.of_block (hb3.block _ HY3.out.lt)
    clear hcx hcy hkt HB3 HX3 HY3 HXd HYd hb3 hb2
    go_wp2
    go_roundw
    case rel => exact ⟨i + 1, by omega, by go_num, HB4, HX4, HY4⟩
    case measure => simp [intOf]; omega
  ·have hc1 := HX.out.cell
   have hie : i = D.S.length := by omega
   subst hie
   go_wp2
   go_ret
   exact ⟨rfl, HB.out⟩
def actv (k wh : Int) (how : Bool) (n a : Nat) (nm vl : ByteArray) (xk : Int) (xn : ByteArray) (xa : Option Addr) (xal xac : Nat) (xt : ByteArray) (xka : Option Addr) (xkl xkc : Nat) : Array Value :=
 #[.int .i64 k, .int .i64 wh, .bool how, .int .u64 (n : Int), .int .u64 (a : Int), .string nm, .string vl, .int .i64 xk, .string xn, .slice xa xal xac, .string xt, .slice xka xkl xkc]
def MeantP (w : World) (k wh : Int) (nm vl : ByteArray) (xk : Int) (xn : ByteArray) (xa : Option Addr) (xal xac : Nat) (xt : ByteArray) (xka : Option Addr) (xkl xkc : Nat) (e : Ending) (w' : World) : Prop :=
 ∃ how n a, n < 18446744073709551616 /\ a < 18446744073709551616 /\ e = .returned (.agg (actv k wh how n a nm vl xk xn xa xal xac xt xka xkl xkc)) /\ Below w.heap.size w w'
theorem turn12 {A : Nat -> Prop} (w : World) (X : Nat) (h : A X) (v0 v1 v2 v3 v4 v5 v6 v7 v8 v9 v10 v11 : Value) : Turn A w ((((((((((((w.setCell ⟨X, 0, none⟩ v0).setCell ⟨X, 1, none⟩ v1).setCell ⟨X, 2, none⟩ v2).setCell ⟨X, 3, none⟩ v3).setCell ⟨X, 4, none⟩ v4).setCell ⟨X, 5, none⟩ v5).setCell ⟨X, 6, none⟩ v6).setCell ⟨X, 7, none⟩ v7).setCell ⟨X, 8, none⟩ v8).setCell ⟨X, 9, none⟩ v9).setCell ⟨X, 10, none⟩ v10).setCell ⟨X, 11, none⟩ v11) :=
 (((((((((((((Turn.refl A w).setCell (p := ⟨X, 0, none⟩) h v0).setCell (p := ⟨X, 1, none⟩) h v1).setCell (p := ⟨X, 2, none⟩) h v2).setCell (p := ⟨X, 3, none⟩) h v3).setCell (p := ⟨X, 4, none⟩) h v4).setCell (p := ⟨X, 5, none⟩) h v5).setCell (p := ⟨X, 6, none⟩) h v6).setCell (p := ⟨X, 7, none⟩) h v7).setCell (p := ⟨X, 8, none⟩) h v8).setCell (p := ⟨X, 9, none⟩) h v9).setCell (p := ⟨X, 10, none⟩) h v10).setCell (p := ⟨X, 11, none⟩) h v11)
theorem meant_any (w : World) (R : Nat -> Prop) (db : Nat) (D : Dc) (hv : View w R db D) (hw : WF D) (k wh : Int) (how : Bool) (n a : Nat) (nm vl : ByteArray) (xk : Int) (xn : ByteArray) (xa : Option Addr) (xal xac : Nat) (xt : ByteArray) (xka : Option Addr) (xkl xkc : Nat) (hn : n < 18446744073709551616) (ha : a < 18446744073709551616) :
  Calls Tryz.prog 11 #[.pointer (some ⟨db, 0, none⟩), .agg (actv k wh how n a nm vl xk xn xa xal xac xt xka xkl xkc)] w (MeantP w k wh nm vl xk xn xa xal xac xt xka xkl xkc) := by
 unfold actv
 obtain ⟨W1, hW1⟩ : ∃ W1, W1 = (w.alloc (.cells #[.int .i64 k, .int .i64 wh, .bool how, .int .u64 (n : Int), .int .u64 (a : Int), .string nm, .string vl, .int .i64 xk, .string xn, .slice xa xal xac, .string xt, .slice xka xkl xkc] 48)).alloc (.cells #[.int .i64 0, .int .i64 0, .bool false, .int .u64 0, .int .u64 0, .string ⟨#[]⟩, .string ⟨#[]⟩, .int .i64 0, .string ⟨#[]⟩, .slice none 0 0, .string ⟨#[]⟩, .slice none 0 0] 48) := ⟨_, rfl⟩
 have hs1 : W1.heap.size = w.heap.size + 2 := by rw [hW1]; simp
 have hb1 : Below w.heap.size w W1 := by rw [hW1]; exact (below_new' w _).alloc (by simp) _
 have HX1 : Hid (IsCells W1 w.heap.size #[.int .i64 k, .int .i64 wh, .bool how, .int .u64 (n : Int), .int .u64 (a : Int), .string nm, .string vl, .int .i64 xk, .string xn, .slice xa xal xac, .string xt, .slice xka xkl xkc]) := by rw [hW1]; exact (isCells_new w _ _).alloc _
 have HY1 : Hid (IsCells W1 (w.heap.size + 1) #[.int .i64 0, .int .i64 0, .bool false, .int .u64 0, .int .u64 0, .string ⟨#[]⟩, .string ⟨#[]⟩, .int .i64 0, .string ⟨#[]⟩, .slice none 0 0, .string ⟨#[]⟩, .slice none 0 0]) := by
  have := isCells_new (w.alloc (.cells #[.int .i64 k, .int .i64 wh, .bool how, .int .u64 (n : Int), .int .u64 (a : Int), .string nm, .string vl, .int .i64 xk, .string xn, .slice xa xal xac, .string xt, .slice xka xkl xkc] 48)) #[.int .i64 0, .int .i64 0, .bool false, .int .u64 0, .int .u64 0, .string ⟨#[]⟩, .string ⟨#[]⟩, .int .i64 0, .string ⟨#[]⟩, .slice none 0 0, .string ⟨#[]⟩, .slice none 0 0] 48
  rw [hW1]
  simp only [World.alloc, Array.size_push] at this ⊢
  exact this
 have hall := rAll_some W1 R db D 0 (hv.below hb1) hw (.inl rfl)
 rw [hW1] at hall
 have hlen := allA_len hw (h := 0) (.inl rfl)
 have HW1 : Hid (W1 = _) := hW1
 have HB1 : Hid (Below w.heap.size w W1) := hb1
 have HS1 : Hid (W1.heap.size = w.heap.size + 2) := hs1
 clear hs1 hb1 hW1 hv
 go_enter Tryz.func11, Tryz.ntmps11
 go_wp2_with fail
 refine hall.mono ?_
 rw [<- HW1.out]
 rintro e w2 ⟨la, lc, rfl, hown, hb2⟩
 have HYL : Hid (∀ y ∈ allA D 0, y < 18446744073709551616) := fun y hy => by
  obtain ⟨s', hs'⟩ := allR_live hw y (by simpa [allA] using hy)
  exact (hw.lt hs').1
 generalize allA D 0 = ys at *
 have HO : Hid (w2.ownsRow W1.heap.size 42 1 (.slice la ys.length lc) ys.length (hvals ys)) := hown
 have HX2 : Hid (IsCells w2 w.heap.size _) := HX1.out.of_block (hb2.block _ HX1.out.lt)
 have HY2 : Hid (IsCells w2 (w.heap.size + 1) _) := HY1.out.of_block (hb2.block _ HY1.out.lt)
 have HB2 : Hid (Below w.heap.size w w2) := HB1.out.trans (hb2.mono HB1.out.size)
 have hc := HX2.out.cell
 have hf := HX2.out.frozen
 have hd := HY2.out.cell
 have hg := HY2.out.frozen
 have hl1 := HX2.out.lt
 have hl2 := HY2.out.lt
 have HTD : Hid (∀ w', Turn (fun b => b = w.heap.size \/ b = w.heap.size + 1) w2 w' -> Below w.heap.size w w') := fun w' ht => HB2.out.trans (ht.below HB2.out.size (fun k hk => by omega))
 clear hall hown hb2 HX1 HY1 HW1
 cases how with
 | false =>
  go_wp2
  refine bodyPost_ret (v := .agg (actv k wh false n a nm vl xk xn xa xal xac xt xka xkl xkc)) (by simp [results, Tryz.results11, go_sem, hd, actv]) rfl ⟨_, _, _, hn, ha, rfl, ?_⟩
  refine HTD.out _ ?_
  exact turn12 _ _ (.inr rfl) _ _ _ _ _ _ _ _ _ _ _ _
 | true =>
  by_cases h0 : ys.length = 0
  ·have hy : ys = [] := List.length_eq_zero_iff.1 h0
   subst hy
   clear h0
   go_wp2
   refine bodyPost_ret (v := .agg (actv k wh false n 0 nm vl xk xn xa xal xac xt xka xkl xkc)) (by simp [results, Tryz.results11, go_sem, hd, actv]) rfl ⟨_, _, _, hn, by omega, rfl, ?_⟩
   refine HTD.out _ ?_
   exact (((Turn.refl _ w2).setCell (p := ⟨w.heap.size, 2, none⟩) (.inl rfl) _).setCell (p := ⟨w.heap.size, 4, none⟩) (.inl rfl) _).trans (turn12 _ _ (.inr rfl) _ _ _ _ _ _ _ _ _ _ _ _)
  ·obtain ⟨-, -, hrow⟩ := row_cell HO.out
   have hpos : 0 < ys.length := by omega
   have hr1 : n % ys.length < ys.length := Nat.mod_lt _ hpos
   obtain ⟨x, hx⟩ : ∃ x, ys[n % ys.length]? = some x := ⟨_, List.getElem?_eq_getElem hr1⟩
   obtain ⟨g, e1, e2, e3, e4⟩ := hrow (n % ys.length) (.int .u64 (x : Int)) (by unfold hvals; rw [List.getElem?_map, hx]; rfl)
   subst e1
   have hg1 : ¬ g = w.heap.size := by have := HS1.out; omega
   have hg2 : ¬ w.heap.size = g := by have := HS1.out; omega
   have hxl : x < 18446744073709551616 := HYL.out x (List.mem_of_getElem? hx)
   have hcast : (a : Int) % ((ys.length : Int) + 1) = ((a % (ys.length + 1) : Nat) : Int) := by
    rw [show ((ys.length : Int) + 1) = ((ys.length + 1 : Nat) : Int) from by simp, <- Int.natCast_emod]
   by_cases ht : a % (ys.length + 1) = ys.length
   ·have hq : ((a : Int) % ((ys.length : Int) + 1) == (ys.length : Int)) = true := by rw [hcast, ht]; simp
    clear hcast ht
    go_wp2
    refine bodyPost_ret (v := .agg (actv k wh false x 0 nm vl xk xn xa xal xac xt xka xkl xkc)) (by simp [results, Tryz.results11, go_sem, hd, actv]) rfl ⟨_, _, _, hxl, by omega, rfl, ?_⟩
    refine HTD.out _ ?_
    exact ((((Turn.refl _ w2).setCell (p := ⟨w.heap.size, 2, none⟩) (.inl rfl) _).setCell (p := ⟨w.heap.size, 3, none⟩) (.inl rfl) _).setCell (p := ⟨w.heap.size, 4, none⟩) (.inl rfl) _).trans (turn12 _ _ (.inr rfl) _ _ _ _ _ _ _ _ _ _ _ _)
   ·have hq : ((a : Int) % ((ys.length : Int) + 1) == (ys.length : Int)) = false := by rw [hcast]; simp; omega
    have hr2 : a % (ys.length + 1) < ys.length := by have := Nat.mod_lt a (show 0 < ys.length + 1 by omega); omega
    obtain ⟨y, hy⟩ : ∃ y, ys[a % (ys.length + 1)]? = some y := ⟨_, List.getElem?_eq_getElem hr2⟩
    obtain ⟨g', e1', e2', e3', e4'⟩ := hrow (a % (ys.length + 1)) (.int .u64 (y : Int)) (by unfold hvals; rw [List.getElem?_map, hy]; rfl)
    cases e1'
    have hyl : y < 18446744073709551616 := HYL.out y (List.mem_of_getElem? hy)
    have hin : (0 : Int) <= (a : Int) % ((ys.length : Int) + 1) /\ (a : Int) % ((ys.length : Int) + 1) < (ys.length : Int) := by rw [hcast]; omega
    have hin1 := hin.1
    have hin2 := hin.2
    clear hcast ht hrow
    go_wp2
    refine bodyPost_ret (v := .agg (actv k wh false x y nm vl xk xn xa xal xac xt xka xkl xkc)) (by simp [results, Tryz.results11, go_sem, hd, actv]) rfl ⟨_, _, _, hxl, hyl, rfl, ?_⟩
    refine HTD.out _ ?_
    exact ((((Turn.refl _ w2).setCell (p := ⟨w.heap.size, 2, none⟩) (.inl rfl) _).setCell (p := ⟨w.heap.size, 3, none⟩) (.inl rfl) _).setCell (p := ⟨w.heap.size, 4, none⟩) (.inl rfl) _).trans (turn12 _ _ (.inr rfl) _ _ _ _ _ _ _ _ _ _ _ _)
structure Bo (w : World) (ro : Nat -> Nat) (db : Nat) (Q : Nat -> Prop) (rb : Nat) (D : Dc) : Prop where
 wf : WF D
 p : PDoc w ro db D
 r : RDoc w Q rb D
 ap : ∀ b, ro b ≠ 0 -> ¬ Q b /\ b ≠ rb
theorem Bo.turn {w w' : World} {ro : Nat -> Nat} {db : Nat} {Q : Nat -> Prop} {rb : Nat} {D : Dc} (h : Bo w ro db Q rb D) {A : Nat -> Prop} (ht : Turn A w w') (h1 : ∀ b, ro b ≠ 0 -> ¬ A b) (h2 : ∀ b, Q b -> ¬ A b) (h3 : ¬ A rb) : Bo w' ro db Q rb D :=
 ⟨h.wf, h.p.turn ht h1, h.r.turn ht h2 h3, h.ap⟩
theorem Bo.below {w w' : World} {ro : Nat -> Nat} {db : Nat} {Q : Nat -> Prop} {rb : Nat} {D : Dc} (h : Bo w ro db Q rb D) (hb : Below w.heap.size w w') : Bo w' ro db Q rb D :=
 h.turn (A := fun _ => False) ((Turn.refl _ _).then hb (Nat.le_refl _)) (fun _ _ h => h) (fun _ _ h => h) (fun h => h)
def DoP (w : World) (ro : Nat -> Nat) (db : Nat) (Q : Nat -> Prop) (rb : Nat) (e : Ending) (w' : World) : Prop :=
 e = .returned (.bool true) /\ Turn (fun b => ro b ≠ 0 \/ b = rb) w w' /\ ∃ ro' Q' D', Bo w' ro' db Q' rb D' /\ (∀ b, ro' b ≠ 0 -> ro b ≠ 0 \/ w.heap.size <= b) /\ (∀ b, Q' b -> Q b \/ w.heap.size <= b)
theorem PdocLt {w : World} {ro : Nat -> Nat} {db : Nat} {D : Dc} (h : PDoc w ro db D) : ∀ b, ro b ≠ 0 -> b < w.heap.size := by
 obtain ⟨sa, sc, ra, rc, L, h⟩ := h
 exact h.lt
structure Bh (w w' : World) (ro : Nat -> Nat) (db : Nat) (Q : Nat -> Prop) (rb : Nat) (D D' : Dc) (ro' : Nat -> Nat) : Prop where
 turn : Turn (fun b => ro b ≠ 0) w w'
 p : PDoc w' ro' db D'
 r : RDoc w' Q rb D
 new : ∀ b, ro' b ≠ 0 -> ro b ≠ 0 \/ w.heap.size <= b
 ap : ∀ b, ro' b ≠ 0 -> ¬ Q b /\ b ≠ rb
theorem Bo.half {w w' : World} {ro ro' : Nat -> Nat} {db : Nat} {Q : Nat -> Prop} {rb : Nat} {D D' : Dc} (h : Bo w ro db Q rb D) (ht : Turn (fun b => ro b ≠ 0) w w') (hp : PDoc w' ro' db D') (hn : ∀ b, ro' b ≠ 0 -> ro b ≠ 0 \/ w.heap.size <= b) : Bh w w' ro db Q rb D D' ro' :=
 ⟨ht, hp, h.r.turn ht (fun b hb e => (h.ap b e).1 hb) (fun e => (h.ap rb e).2 rfl), hn, fun b hb => by
  rcases hn b hb with h1 | h1
  ·exact h.ap b h1
  ·exact ⟨fun hq => by have := h.r.lt b hq; omega, fun e => by have := h.r.rbl; omega⟩⟩
theorem Bh.whole {w w' w'' : World} {ro ro' : Nat -> Nat} {db : Nat} {Q : Nat -> Prop} {rb : Nat} {D D' : Dc} (h : Bh w w' ro db Q rb D D' ro') (hw : WF D') (ht : Turn (fun b => b = rb) w' w'') (hr : RDoc w'' (fun b => Q b \/ (w'.heap.size <= b /\ b < w''.heap.size)) rb D') : DoP w ro db Q rb (.returned (.bool true)) w'' := by
 refine ⟨rfl, (h.turn.mono (fun _ _ e => .inl e)).trans (ht.mono (fun _ _ e => .inr e)), ro', _, D', ⟨hw, h.p.turn ht (fun b hb e => (h.ap b hb).2 e), hr, fun b hb => ⟨?_, (h.ap b hb).2⟩⟩, h.new, fun b hb => ?_⟩
 ·rintro (hq | ⟨hq, _⟩)
  ·exact (h.ap b hb).1 hq
  ·have := PdocLt h.p b hb
   omega
 ·rcases hb with hb | ⟨hb, _⟩
  ·exact .inl hb
  ·exact .inr (Nat.le_trans h.turn.size hb)
theorem DoP.from {z w w' : World} {ro : Nat -> Nat} {db : Nat} {Q : Nat -> Prop} {rb : Nat} {e : Ending} (ht : Turn (fun _ => False) z w) (h : DoP w ro db Q rb e w') : DoP z ro db Q rb e w' := by
 obtain ⟨h1, h2, ro', Q', D', h3, h4, h5⟩ := h
 exact ⟨h1, (ht.mono (fun _ _ h => h.elim)).trans h2, ro', Q', D', h3, fun b hb => (h4 b hb).imp_right (Nat.le_trans ht.size), fun b hb => (h5 b hb).imp_right (Nat.le_trans ht.size)⟩
theorem set12 {w : World} {X : Nat} {c0 c1 c2 c3 c4 c5 c6 c7 c8 c9 c10 c11 : Value} (h : IsCells w X #[c0, c1, c2, c3, c4, c5, c6, c7, c8, c9, c10, c11]) (v0 v1 v2 v3 v4 v5 v6 v7 v8 v9 v10 v11 : Value) :
  IsCells ((((((((((((w.setCell ⟨X, 0, none⟩ v0).setCell ⟨X, 1, none⟩ v1).setCell ⟨X, 2, none⟩ v2).setCell ⟨X, 3, none⟩ v3).setCell ⟨X, 4, none⟩ v4).setCell ⟨X, 5, none⟩ v5).setCell ⟨X, 6, none⟩ v6).setCell ⟨X, 7, none⟩ v7).setCell ⟨X, 8, none⟩ v8).setCell ⟨X, 9, none⟩ v9).setCell ⟨X, 10, none⟩ v10).setCell ⟨X, 11, none⟩ v11) X #[v0, v1, v2, v3, v4, v5, v6, v7, v8, v9, v10, v11] := by
 have h0 : IsCells _ X #[v0, c1, c2, c3, c4, c5, c6, c7, c8, c9, c10, c11] := h.set 0 v0
 have h1 : IsCells _ X #[v0, v1, c2, c3, c4, c5, c6, c7, c8, c9, c10, c11] := h0.set 1 v1
 have h2 : IsCells _ X #[v0, v1, v2, c3, c4, c5, c6, c7, c8, c9, c10, c11] := h1.set 2 v2
 have h3 : IsCells _ X #[v0, v1, v2, v3, c4, c5, c6, c7, c8, c9, c10, c11] := h2.set 3 v3
 have h4 : IsCells _ X #[v0, v1, v2, v3, v4, c5, c6, c7, c8, c9, c10, c11] := h3.set 4 v4
 have h5 : IsCells _ X #[v0, v1, v2, v3, v4, v5, c6, c7, c8, c9, c10, c11] := h4.set 5 v5
 have h6 : IsCells _ X #[v0, v1, v2, v3, v4, v5, v6, c7, c8, c9, c10, c11] := h5.set 6 v6
 have h7 : IsCells _ X #[v0, v1, v2, v3, v4, v5, v6, v7, c8, c9, c10, c11] := h6.set 7 v7
 have h8 : IsCells _ X #[v0, v1, v2, v3, v4, v5, v6, v7, v8, c9, c10, c11] := h7.set 8 v8
 have h9 : IsCells _ X #[v0, v1, v2, v3, v4, v5, v6, v7, v8, v9, c10, c11] := h8.set 9 v9
 have h10 : IsCells _ X #[v0, v1, v2, v3, v4, v5, v6, v7, v8, v9, v10, c11] := h9.set 10 v10
 have h11 : IsCells _ X #[v0, v1, v2, v3, v4, v5, v6, v7, v8, v9, v10, v11] := h10.set 11 v11
 exact h11
theorem turn12n {A : Nat -> Prop} {z w : World} (ht : Turn A z w) {X : Nat} (h : z.heap.size <= X) (v0 v1 v2 v3 v4 v5 v6 v7 v8 v9 v10 v11 : Value) : Turn A z ((((((((((((w.setCell ⟨X, 0, none⟩ v0).setCell ⟨X, 1, none⟩ v1).setCell ⟨X, 2, none⟩ v2).setCell ⟨X, 3, none⟩ v3).setCell ⟨X, 4, none⟩ v4).setCell ⟨X, 5, none⟩ v5).setCell ⟨X, 6, none⟩ v6).setCell ⟨X, 7, none⟩ v7).setCell ⟨X, 8, none⟩ v8).setCell ⟨X, 9, none⟩ v9).setCell ⟨X, 10, none⟩ v10).setCell ⟨X, 11, none⟩ v11) :=
 ((((((((((((ht.setNew (p := ⟨X, 0, none⟩) h v0).setNew (p := ⟨X, 1, none⟩) h v1).setNew (p := ⟨X, 2, none⟩) h v2).setNew (p := ⟨X, 3, none⟩) h v3).setNew (p := ⟨X, 4, none⟩) h v4).setNew (p := ⟨X, 5, none⟩) h v5).setNew (p := ⟨X, 6, none⟩) h v6).setNew (p := ⟨X, 7, none⟩) h v7).setNew (p := ⟨X, 8, none⟩) h v8).setNew (p := ⟨X, 9, none⟩) h v9).setNew (p := ⟨X, 10, none⟩) h v10).setNew (p := ⟨X, 11, none⟩) h v11)
theorem does_none (w : World) (ro : Nat -> Nat) (db : Nat) (Q : Nat -> Prop) (rb : Nat) (D : Dc) (hbo : Bo w ro db Q rb D) (k wh : Int) (how : Bool) (n a : Nat) (nm vl : ByteArray) (xk : Int) (xn : ByteArray) (xa : Option Addr) (xal xac : Nat) (xt : ByteArray) (xka : Option Addr) (xkl xkc : Nat) (hn : n < 18446744073709551616) (ha : a < 18446744073709551616)
  (hk : k ≠ 0 /\ k ≠ 1 /\ k ≠ 2 /\ k ≠ 3 /\ k ≠ 4 /\ k ≠ 5 /\ k ≠ 6) :
  Calls Tryz.prog 12 #[.iface 27 (.pointer (some ⟨db, 0, none⟩)), .pointer (some ⟨rb, 0, none⟩), .agg (actv k wh how n a nm vl xk xn xa xal xac xt xka xkl xkc)] w (DoP w ro db Q rb) := by
 have hme := meant_any (w.alloc (.cells (actv k wh how n a nm vl xk xn xa xal xac xt xka xkl xkc) 48)) _ rb D (hbo.r.view.below (below_new' w _)) hbo.wf k wh how n a nm vl xk xn xa xal xac xt xka xkl xkc hn ha
 have HX : Hid (IsCells (w.alloc (.cells (actv k wh how n a nm vl xk xn xa xal xac xt xka xkl xkc) 48)) w.heap.size (actv k wh how n a nm vl xk xn xa xal xac xt xka xkl xkc)) := isCells_new _ _ _
 have HBO : Hid (Bo w ro db Q rb D) := hbo
 obtain ⟨z0, z1, z2, z3, z4, z5, z6⟩ := hk
 have y0 : (k == 0) = false := by simpa using z0
 have y1 : (k == 1) = false := by simpa using z1
 have y2 : (k == 2) = false := by simpa using z2
 have y3 : (k == 3) = false := by simpa using z3
 have y4 : (k == 4) = false := by simpa using z4
 have y5 : (k == 5) = false := by simpa using z5
 have y6 : (k == 6) = false := by simpa using z6
 clear hbo z0 z1 z2 z3 z4 z5 z6
 unfold actv at HX hme ⊢
 go_enter Tryz.func12, Tryz.ntmps12
 go_wp2_with fail
 refine hme.mono ?_
 rintro e w1 ⟨how', n', a', hn', ha', rfl, hb1⟩
 unfold actv
 have HX1 : Hid (IsCells w1 w.heap.size _) := HX.out.of_block (hb1.block _ HX.out.lt)
 have hc := HX1.out.cell
 have hf := HX1.out.frozen
 have hl := HX1.out.lt
 have HT : Hid (Turn (fun _ => False) w w1) := ((Turn.refl _ _).alloc _).then hb1 (by simp)
 clear hme hb1
 go_wp2
 go_ret
 have HT2 := turn12n HT.out (X := w.heap.size) (Nat.le_refl _) (.int .i64 k) (.int .i64 wh) (.bool how') (.int .u64 (n' : Int)) (.int .u64 (a' : Int)) (.string nm) (.string vl) (.int .i64 xk) (.string xn) (.slice xa xal xac) (.string xt) (.slice xka xkl xkc)
 exact ⟨rfl, HT2.mono (fun _ _ h => h.elim), ro, Q, D, HBO.out.turn HT2 (fun _ _ h => h) (fun _ _ h => h) (fun h => h), fun b hb => .inl hb, fun b hb => .inl hb⟩
end Go.Proofs.YtnhajpeijkbbeaaGreat
