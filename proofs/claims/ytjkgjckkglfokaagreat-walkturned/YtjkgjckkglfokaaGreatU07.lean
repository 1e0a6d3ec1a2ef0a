/- Lists set, by the document. -/
import Derived.Test.YtjkgjckkglfokaaGreatU01
import Derived.Test.YtjkgjckkglfokaaGreatU06
import Derived.Deep.RegionHeld3
namespace Go.Proofs.YtjkgjckkglfokaaGreat.Gr
open Go.RowKit
set_option linter.unusedVariables false
set_option linter.unusedSimpArgs false
set_option maxRecDepth 100000
set_option maxHeartbeats 400000
theorem RdS.widen {w : World} {base : Nat} {Q Q' : Nat -> Prop} {rb : Nat} {D : Dc} {g cap : Nat} {ra : Option Addr} {rcap : Nat} {L : List (Value × Value)} (h : RdS w base Q rb D g cap ra rcap L) (h1 : ∀ b, Q b -> Q' b) (h2 : ∀ b, Q' b -> b ≠ g /\ b < w.heap.size) (h3 : ¬ Q' rb) : RdS w base Q' rb D g cap ra rcap L :=
 ⟨h.head, h.own, h.len, fun i s p hs hp => (h.vals i s p hs hp).to h1 (fun _ _ _ => rfl), h.roots.to h1 (fun _ _ _ => rfl), h.rlen, h2, h3, h.rbl⟩
theorem RdS.setRoots {w : World} {base : Nat} {Q : Nat -> Prop} {rb : Nat} {D : Dc} {g cap : Nat} {ra : Option Addr} {rcap : Nat} {L : List (Value × Value)} (h : RdS w base Q rb D g cap ra rcap L) {l' : List Nat} {a' : Option Addr} {c' : Nat} (hl : HandsAt w Q a' l') (hc : l'.length <= c') :
  RdS (w.setCell ⟨rb, 1, none⟩ (.slice a' l'.length c')) base Q rb { D with roots := l' } g cap a' c' L := by
 have hgb := h.gb
 have hrb := h.rbl
 have hne : ∀ b, Q b -> b ≠ rb := fun b hb e => h.nrb (e ▸ hb)
 have hcell : ∀ b o, Q b -> (w.setCell ⟨rb, 1, none⟩ (.slice a' l'.length c')).cell? ⟨b, o, none⟩ = w.cell? ⟨b, o, none⟩ := fun b o hb => World.cell?_of_block (w := w) (a := ⟨b, o, none⟩) (Below.heap_setCell _ _ _ _ (hne b hb))
 refine ⟨?_, own_of_block h.own (fun k hk => ?_), h.len, fun i s p hs hp => (h.vals i s p hs hp).to (fun _ h => h) hcell, hl.to (fun _ h => h) hcell, hc, fun b hb => ⟨(h.qne b hb).1, by simpa [World.setCell] using (h.qne b hb).2⟩, h.nrb, hrb⟩
 ·have := h.head.set 1 (.slice a' l'.length c')
  simpa using this
 ·cases hk
  exact Below.heap_setCell _ _ _ _ (by show g ≠ rb; omega)
theorem RdS.setKids {w : World} {base : Nat} {Q : Nat -> Prop} {rb : Nat} {D : Dc} {g cap : Nat} {ra : Option Addr} {rcap : Nat} {L : List (Value × Value)} (h : RdS w base Q rb D g cap ra rcap L) {i : Nat} {s : Sl} {p : Value × Value} (hs : D.S[i]? = some s) (hp : L[i]? = some p) {l' : List Nat} {a' : Option Addr} {c' : Nat} (hl : HandsAt w Q a' l') (hc : l'.length <= c') :
  RdS (w.setCell ⟨g, i * 8 + 7, none⟩ (.slice a' l'.length c')) base Q rb { D with S := D.S.set i { s with kids := l' } } g cap ra rcap (L.set i (p.1, .slice a' l'.length c')) := by
 obtain ⟨aa, ac, ka, kc, e, l1, l2, v1, v2⟩ := h.vals i s p hs hp
 refine h.store hs hp (by omega) rfl ⟨aa, ac, a', c', ?_, l1, hc, v1, hl⟩
 rw [e]
def setL (D : Dc) (p : Nat) (l' : List Nat) : Dc :=
 if p = 0 then { D with roots := l' } else match atI D.S p with
  | none => D
  | some i => match D.S[i]? with
   | none => D
   | some s => { D with S := D.S.set i { s with kids := l' } }
def SetP (w : World) (base : Nat) (Q : Nat -> Prop) (rb : Nat) (D' : Dc) (g cap : Nat) (e : Ending) (w' : World) : Prop :=
 e = .returned (.tuple #[]) /\ (∃ ra rcap L, RdS w' base Q rb D' g cap ra rcap L) /\ Turn (fun b => b = rb \/ b = g) w w'
theorem rset_any (w : World) (base : Nat) (Q : Nat -> Prop) (rb : Nat) (D : Dc) (g cap : Nat) (ra : Option Addr) (rcap : Nat) (L : List (Value × Value)) (p : Nat) (l' : List Nat) (a' : Option Addr) (c' : Nat) (h : RdS w base Q rb D g cap ra rcap L) (hf : Fits D) (hp : p = 0 \/ ∃ s, sl D p = some s) (hpl : p < 18446744073709551616) (hl : HandsAt w Q a' l') (hc : l'.length <= c') :
  Calls Tryz.prog 109 #[.pointer (some ⟨rb, 0, none⟩), .int .u64 (p : Int), .slice a' l'.length c'] w (SetP w base Q rb (setL D p l') g cap) := by
 have hrbs := h.head.lt
 by_cases h0 : p = 0
 ·have e1 : setL D p l' = { D with roots := l' } := by simp [setL, h0]
  rw [e1]
  have hz : ((p : Int) == 0) = true := by simp [h0]
  have hcl := h.head.cell
  have hfz := h.head.frozen
  have HR := hid (h.setRoots hl hc)
  clear h e1 hp hl h0
  go_enter Tryz.func109, Tryz.ntmps109
  go_wp2
  go_end0
  exact ⟨rfl, ⟨_, _, _, HR.out⟩, Turn.setCell (A := fun b => b = rb \/ b = g) (Turn.refl _ w) (p := ⟨rb, 1, none⟩) (.inl rfl) _⟩
 ·obtain ⟨s, hs⟩ : ∃ s, sl D p = some s := by
   rcases hp with h | h
   ·exact absurd h h0
   ·exact h
  obtain ⟨i, hai, hsi, -⟩ := sl_live hs
  have e1 : setL D p l' = { D with S := D.S.set i { s with kids := l' } } := by simp only [setL, h0, if_false, hai, hsi]
  rw [e1]
  have hz : ((p : Int) == 0) = false := by simp; omega
  obtain ⟨q, hq, hvq, hcap, hhd, hcl⟩ := h.slot hsi
  have hat := rat_any w _ rb D p h.done.view hf hpl
  rw [atR_some hai] at hat
  have hat2 := rat_any w.drew _ rb D p (h.done.view.below ((Below.refl _ _).drew)) hf hpl
  rw [atR_some hai] at hat2
  have hc7 := (hcl 7 _ rfl).1
  have hf7 := (hcl 7 _ rfl).2
  have hil : (i : Int) < ((D.S.length : Nat) : Int) := by have := (List.getElem?_eq_some_iff.1 hsi).1; omega
  have hl4 := hf.len
  have hgs := h.gb
  have hgr : ¬ g = rb := by have := h.rbl; omega
  have hgr2 : ¬ rb = g := by omega
  have HR := hid ((h.below ((Below.refl _ _).drew)).setKids hsi hq (hl.to (fun _ h => h) (fun _ _ _ => rfl)) hc)
  clear h e1 hp hl h0 hs hai hsi hq hvq hcl
  go_enter Tryz.func109, Tryz.ntmps109
  go_wp2
  go_region_held3 (fun w' => w'.cell? ⟨rb, 0, none⟩ = some (.slice (some ⟨g, 0, none⟩) D.S.length cap)) (go_keep) (first | (go_at_call 28; refine hat2.mono ?_; rintro e w1 ⟨rfl, rfl⟩))
  go_end0
  exact ⟨rfl, ⟨_, _, _, HR.out⟩, (Turn.setCell (A := fun b => b = rb \/ b = g) (Turn.refl _ w) (p := ⟨g, i * 8 + 7, none⟩) (.inr rfl) _).drew⟩
end Go.Proofs.YtjkgjckkglfokaaGreat.Gr
/- A node taken out of its list, by the document. -/
namespace Go.Proofs.YtjkgjckkglfokaaGreat.Gr
open Go.RowKit
set_option linter.unusedVariables false
set_option linter.unusedSimpArgs false
set_option maxRecDepth 100000
set_option maxHeartbeats 1000000
attribute [local go_sem] Bel.cell Bel.fz
def sliceAt (b o c k : Nat) : Option Addr := if c = k then some ⟨b, o, none⟩ else some ⟨b, o + k, none⟩
theorem ite_sliceAt (b o c k : Nat) : (if c = k then some (⟨b, o, none⟩ : Addr) else some ⟨b, o + k, none⟩) = sliceAt b o c k := rfl
attribute [local go_sem] ite_sliceAt
theorem step_app {P : Program} {t e : TypeId} {z : Value} {size bytes : Nat} {w : World} {ops : Array Oper} {o : Oper} {ac : Act} {K : Act -> World -> Prop} {Q : Exit -> Act -> World -> Prop} {E : Prop} (hgd : o.guard = none) (s x : Operand)
  (ho : o.op = .call { callee := .builtin .append, args := #[s, x], argTypes := #[t, t] }) (ht : P.underlying t = some (.slice e)) (hi : InfoOf P e z size bytes) (hzs : z.cells.size = size) (hsz : 0 < size)
  (base : Nat) (v : Value) (n : Nat) (xs : List Value) (hs : ac.eval s = v) (hown : w.ownsRow base e size v n xs) (a : Option Addr) (m c : Nat) (news : List Value) (hx : ac.eval x = .slice a m c) (hl : news.length = m * size)
  (hnews : ∀ j u, news[j]? = some u -> ∃ ad, a = some ad /\ w.cell? (ad.add j) = some u) (h1 : ∀ u ∈ news, u.oneCell' = true) (h63 : n + m <= maxLen) (hbytes : (n + m) * bytes <= 140737488355328) (hbase : base <= w.heap.size)
  (hK : ∀ v' w', w'.ownsRow base e size v' (n + m) (xs ++ news) -> w.grownBy w' v.ownBlock -> (v' = .slice none 0 0 ↔ v = .slice none 0 0 /\ m = 0) -> (v'.ownBlock = v.ownBlock \/ v'.ownBlock = some w.heap.size) -> K (ac.put o.dst v') w') :
  if Region.wanted o (yielded ops ac.tmps) = true then Oper.wp P o ac w K Q else E := by
 have hw : Region.wanted o (yielded ops ac.tmps) = true := by simp [Region.wanted, hgd]
 rw [if_pos hw]
 obtain ⟨v', w', hr, h2, h3, h4, h5⟩ := run_app (ty := o.type) ht hi hzs hsz w base v n xs hown a m c news hl hnews h1 h63 hbytes hbase
 unfold Oper.wp execOp
 simp only [ho, resolve, invoke, builtin, Sem.run_bind, Sem.run_pure, Result.andThen_ok, List.map_toArray, List.map_cons, List.map_nil, hs, hx, hr]
 exact hK v' w' h2 h3 h4 h5
theorem HandsAt.part {w W : World} {R : Nat -> Prop} {b o : Nat} {l : List Nat} (h : HandsAt w R (some ⟨b, o, none⟩) l) (hW : ∀ b o, R b -> W.cell? ⟨b, o, none⟩ = w.cell? ⟨b, o, none⟩) (k : Nat) (m : List Nat) (hm : ∀ j x, m[j]? = some x -> l[k + j]? = some x) : ∀ j u, (hvals m)[j]? = some u -> ∃ ad, some (⟨b, o + k, none⟩ : Addr) = some ad /\ W.cell? (ad.add j) = some u := by
 intro j u hu
 simp only [hvals, List.getElem?_map, Option.map_eq_some_iff] at hu
 obtain ⟨x, hx, rfl⟩ := hu
 obtain ⟨b', o', e, hR, hc⟩ := h (k + j) x (hm j x hx)
 simp only [Option.some.injEq, Addr.mk.injEq, and_true] at e
 obtain ⟨rfl, rfl⟩ := e
 refine ⟨_, rfl, ?_⟩
 rw [addr_plus, Nat.add_assoc, hW _ _ hR]
 exact hc
theorem take_at (l : List Nat) (k : Nat) : ∀ (j x : Nat), (l.take k)[j]? = some x -> l[0 + j]? = some x := by
 intro j x hx
 rw [Nat.zero_add]
 by_cases e : j < k
 ·rw [List.getElem?_take_of_lt e] at hx; exact hx
 ·rw [List.getElem?_eq_none (by simp; omega)] at hx; cases hx
theorem drop_at (l : List Nat) (k : Nat) : ∀ (j x : Nat), (l.drop k)[j]? = some x -> l[k + j]? = some x := by
 intro j x hx
 rw [List.getElem?_drop] at hx; exact hx
def OutP (w : World) (base : Nat) (Q : Nat -> Prop) (rb : Nat) (D' : Dc) (g cap : Nat) (e : Ending) (w' : World) : Prop :=
 e = .returned (.tuple #[]) /\ (∃ Q' ra rcap L, RdS w' base Q' rb D' g cap ra rcap L /\ ∀ b, Q' b -> Q b \/ w.heap.size <= b) /\ Turn (fun b => b = rb \/ b = g) w w'
theorem rset_new (w w3 w5 : World) (base : Nat) (Q : Nat -> Prop) (rb : Nat) (D : Dc) (g cap : Nat) (ra : Option Addr) (rcap : Nat) (L : List (Value × Value)) (p : Nat) (l' : List Nat) (a' : Option Addr) (c' N : Nat) (h : RdS w base Q rb D g cap ra rcap L) (hf : Fits D) (hp : p = 0 \/ ∃ s, sl D p = some s) (hpl : p < 18446744073709551616) (hb3 : Below w.heap.size w w3) (hb5 : Below w3.heap.size w3 w5) (hN : N = l'.length)
  (hown : w5.ownsRow w3.heap.size 27 1 (.slice a' N c') N (hvals l')) : Calls Tryz.prog 109 #[.pointer (some ⟨rb, 0, none⟩), .int .u64 (p : Int), .slice a' N c'] w5 (OutP w base Q rb (setL D p l') g cap) := by
 subst hN
 have hgs := h.gb
 have hrb := h.rbl
 have hs3 := hb3.size
 have hs5 := hb5.size
 have h5 := (h.below hb3).below hb5
 have hlt := own_block_lt hown
 obtain ⟨a2, c2, e, hle, hat⟩ := hands_row (R := fun b => Q b \/ (Value.slice a' l'.length c').ownBlock = some b) hown (fun b hb => .inr hb)
 simp only [Value.slice.injEq, true_and] at e
 obtain ⟨rfl, rfl⟩ := e
 have hw5 : RdS w5 base (fun b => Q b \/ (Value.slice a' l'.length c').ownBlock = some b) rb D g cap ra rcap L := h5.widen (fun _ h => .inl h) (fun b hb => by
  rcases hb with hb | hb
  ·exact h5.qne b hb
  ·have := hlt b hb
   exact ⟨by omega, this.2⟩) (fun hb => by
  rcases hb with hb | hb
  ·exact h.nrb hb
  ·have := hlt rb hb
   omega)
 refine (rset_any w5 base _ rb D g cap ra rcap L p l' a' c' hw5 hf hp hpl hat hle).mono ?_
 rintro e w6 ⟨rfl, ⟨ra', rcap', L', hr⟩, ht⟩
 refine ⟨rfl, ⟨_, ra', rcap', L', hr, fun b hb => ?_⟩, ?_⟩
 ·rcases hb with hb | hb
  ·exact .inl hb
  ·have := hlt b hb
   exact .inr (by omega)
 ·have h1 : Turn (fun b => b = rb \/ b = g) w w5 := ((below_turn (hb3.trans (hb5.mono hs3))).mono (fun _ _ h => h.elim))
  exact h1.trans ht
theorem rout_any (w : World) (base : Nat) (Q : Nat -> Prop) (rb : Nat) (D : Dc) (g cap : Nat) (ra : Option Addr) (rcap : Nat) (L : List (Value × Value)) (n : Nat) (s : Sl) (k : Nat) (h : RdS w base Q rb D g cap ra rcap L) (hw : WF D) (hs : sl D n = some s) (hk : idxH (lst D s.parent) n = (k : Int)) (hkl : k < (lst D s.parent).length) :
  Calls Tryz.prog 79 #[.pointer (some ⟨rb, 0, none⟩), .int .u64 (n : Int)] w (OutP w base Q rb (setL D s.parent ((lst D s.parent).take k ++ (lst D s.parent).drop (k + 1))) g cap) := by
 obtain ⟨lv, hlv⟩ := hw.lev
 obtain ⟨-, hpp⟩ := dep_par hlv hs
 obtain ⟨hnl, -, i, hai, hsi, -⟩ := hw.lt hs
 have hvw := h.done.view
 have hat := fun W (hb : Below w.heap.size w W) => rat_any W _ rb D n (hvw.below hb) hw.fits hnl
 rw [atR_some hai] at hat
 obtain ⟨q, hq, -, hcap, hhd, hcl⟩ := h.slot hsi
 have hc6 := (hcl 6 _ rfl).1
 have hgs := h.gb
 have hrbl := h.rbl
 have hil : (i : Int) < ((D.S.length : Nat) : Int) := by have := (List.getElem?_eq_some_iff.1 hsi).1; omega
 have hl4 := hw.fits.len
 have hpl := hw.ltz hpp
 have hll := lst_len hw hpp
 have HD : Hid (RdS w base Q rb D g cap ra rcap L) := h
 have HVW : Hid (View w (fun b => (Q b \/ (base <= b /\ b < w.heap.size)) \/ b = rb) rb D) := hvw
 have HF : Hid (Fits D) := hw.fits
 have HPP : Hid (s.parent = 0 \/ ∃ p, sl D s.parent = some p) := hpp
 have HLV : Hid (∀ W, Below w.heap.size w W -> ∃ a cap, (lst D s.parent).length <= cap /\ HandsAt W (fun b => (Q b \/ (base <= b /\ b < w.heap.size)) \/ b = rb) a (lst D s.parent) /\ Calls Tryz.prog 32 #[.pointer (some ⟨rb, 0, none⟩), .int .u64 (s.parent : Int)] W fun e w' => e = .returned (.slice a (lst D s.parent).length cap) /\ Below W.heap.size W w') := fun W hb => rlist_any W _ rb D s.parent (hvw.below hb) hw.fits hpl hpp
 clear h hw hs hlv hpp hai hsi hq hcl hvw
 have HK : Hid (idxH (lst D s.parent) n = (k : Int)) := hk
 clear hk
 generalize lst D s.parent = l at *
 generalize s.parent = p at *
 have hrbs : rb < w.heap.size := by omega
 go_enter Tryz.func79, Tryz.ntmps79
 go_wp2
 refine wp_region_bel (by kernel_rfl) (by kernel_rfl) ?_
 intro hne
 repeat go_big_quiet_step ((go_at_call 28; exact Calls.bel_of_same (hat _ (Bel.h _))))
 refine wpQuiet_nil ?_
 rintro w1 ⟨u, hu⟩
 have hb1 := u.h
 rw [<- hu] at hb1
 clear hu u
 obtain ⟨la, lcap, hlc, hlat, hcal⟩ := HLV.out w1 hb1
 have HB1 : Hid (Below w.heap.size w w1) := hb1
 have HLAT : Hid (HandsAt w1 (fun b => (Q b \/ (base <= b /\ b < w.heap.size)) \/ b = rb) la l) := hlat
 clear hb1 hlat HLV hat hne
 go_wp2_with fail
 refine hcal.mono ?_
 rintro e w2 ⟨rfl, hb2⟩
 have hs1 := HB1.out.size
 have hs2 := hb2.size
 have HB2 : Hid (Below w.heap.size w w2) := HB1.out.trans (hb2.mono hs1)
 have HL2 : Hid (HandsAt w2 (fun b => (Q b \/ (base <= b /\ b < w.heap.size)) \/ b = rb) la l) := HLAT.out.to (fun _ h => h) (fun b o hb => hb2.cell (p := ⟨b, o, none⟩) (by have := HVW.out.lt b hb; show b < w1.heap.size; omega))
 have hfi := rfind_any w2 _ la l lcap n HL2.out (by omega) _ HK.out
 clear hb2 hcal HLAT HB1
 go_wp2_with fail
 refine hfi.mono ?_
 rintro e w3 ⟨rfl, rfl⟩
 obtain ⟨x, hx⟩ : ∃ x, l[k]? = some x := ⟨_, List.getElem?_eq_getElem hkl⟩
 obtain ⟨lb, lo, rfl, hlbR, -⟩ := HL2.out k x hx
 have i1 : (0 : Int) <= (k : Int) := by omega
 have i2 : (k : Int) <= ((l.length : Nat) : Int) := by omega
 have i3 : (k : Int) + 1 <= ((l.length : Nat) : Int) := by omega
 have i4 : ((l.length : Nat) : Int) <= (lcap : Int) := by omega
 have i5 : (k : Int) <= (lcap : Int) := by omega
 have i6 : (k : Int) + 1 <= (lcap : Int) := by omega
 have i7 : (0 : Int) <= (k : Int) + 1 := by omega
 have i8 : ¬ (k : Int) + 1 < 0 := by omega
 have i9 : ¬ ((l.length : Nat) : Int) < (k : Int) + 1 := by omega
 have i10 : ¬ (lcap : Int) < ((l.length : Nat) : Int) := by omega
 have i11 : ((k : Int) + 1).toNat = k + 1 := by omega
 have i12 : (((l.length : Nat) : Int) - ((k : Int) + 1)).toNat = l.length - (k + 1) := by omega
 have HB3 : Hid (Below w3.heap.size w3 (w3.alloc (.cells #[] 27)).drew) := (below_new' w3 _).drew
 have HC : Hid (∀ W, Below w3.heap.size w3 W -> ∀ b o, ((Q b \/ (base <= b /\ b < w.heap.size)) \/ b = rb) -> W.cell? ⟨b, o, none⟩ = w3.cell? ⟨b, o, none⟩) := fun W hb b o hR => hb.cell (p := ⟨b, o, none⟩) (by have := HVW.out.lt b hR; show b < w3.heap.size; omega)
 have HN1 : Hid (∀ j u, (hvals (l.take k))[j]? = some u -> ∃ ad, some (⟨lb, lo, none⟩ : Addr) = some ad /\ ((w3.alloc (.cells #[] 27)).drew).cell? (ad.add j) = some u) := by
  have := HL2.out.part (HC.out _ HB3.out) 0 (l.take k) (take_at l k)
  show ∀ _, _
  simpa using this
 have hAn : Hid (∀ W, Below w3.heap.size w3 W -> ∀ j u, (hvals (l.drop (k + 1)))[j]? = some u -> ∃ ad, sliceAt lb lo lcap (k + 1) = some ad /\ W.cell? (ad.add j) = some u) := by
  intro W hb j u hu
  unfold sliceAt
  by_cases e : lcap = k + 1
  ·rw [show l.drop (k + 1) = [] from List.drop_eq_nil_of_le (by omega)] at hu
   simp [hvals] at hu
  ·rw [if_neg e]
   exact HL2.out.part (HC.out W hb) (k + 1) (l.drop (k + 1)) (drop_at l (k + 1)) j u hu
 have hT1 : Hid ((hvals (l.take k)).length = k * 1) := by show _ = _; rw [hvals_length]; simp; omega
 have hT2 : Hid ((hvals (l.drop (k + 1))).length = (l.length - (k + 1)) * 1) := by show _ = _; rw [hvals_length]; simp
 have hwr : IntKind.i64.wrap ((k : Int) + 1) = (k : Int) + 1 := by rw [IntKind.wrap_i64]; omega
 clear hfi hx HC HL2
 have tok1 : True := trivial
 have tok2 : True := trivial
 go_wp2_with fail
 go_region_held3 (fun _ => True) (trivial)
  (first
   | (have _t := tok1; refine step_app (by rfl) _ _ (by rfl) Tryz.underlying23 info42 rfl (by decide) w3.heap.size (.slice (some ⟨w3.heap.size, 0, none⟩) 0 0) 0 [] (by rfl) (by exact own_of_block (own_new w3 27 1) (fun _ _ => rfl)) (some ⟨lb, lo, none⟩) k lcap (hvals (l.take k)) (by rfl) hT1.out HN1.out (hvals_one _) (by unfold maxLen; omega) (by omega) (by simp) ?_; intro v1 w4 hown1 hg1 _ hat1; obtain ⟨va1, vc1, hv1⟩ := own_slice hown1; subst hv1; rw [Nat.zero_add, List.nil_append] at hown1; rw [Nat.zero_add]; have HO1 : Hid (w4.ownsRow w3.heap.size 27 1 (.slice va1 k vc1) k (hvals (l.take k))) := hown1; have HB4 : Hid (Below w3.heap.size w3 w4) := HB3.out.grown hg1 (by simp) (fun k hk => by simp only [Value.ownBlock, Option.some.injEq] at hk; omega); clear hown1 hg1 hat1 tok1 _t)
   | (have _t := tok2; refine step_app (by rfl) _ _ (by rfl) Tryz.underlying23 info42 rfl (by decide) w3.heap.size (.slice va1 k vc1) k (hvals (l.take k)) (by rfl) HO1.out (sliceAt lb lo lcap (k + 1)) (l.length - (k + 1)) (lcap - (k + 1)) (hvals (l.drop (k + 1))) (by rfl) hT2.out (hAn.out _ HB4.out) (hvals_one _) (by unfold maxLen; omega) (by omega) HB4.out.size ?_; intro v2 w5 hown2 hg2 _ hat2; obtain ⟨va2, vc2, hv2⟩ := own_slice hown2; subst hv2; have HO2 : Hid (w5.ownsRow w3.heap.size 27 1 (.slice va2 (k + (l.length - (k + 1))) vc2) (k + (l.length - (k + 1))) (hvals (l.take k ++ l.drop (k + 1)))) := (by rw [hvals_append]; exact hown2); have HB5 : Hid (Below w3.heap.size w3 w5) := HB4.out.grown hg2 HB4.out.size (fun k hk => (own_block_lt HO1.out k hk).1); generalize hNN : k + (l.length - (k + 1)) = N at HO2 ⊢; have HCN := rset_new w w3 w5 base Q rb D g cap ra rcap L p (l.take k ++ l.drop (k + 1)) va2 vc2 N HD.out HF.out HPP.out hpl HB2.out HB5.out (by rw [<- hNN]; simp; omega) HO2.out; clear hown2 hg2 hat2 tok2 _t hNN)
   | (go_at_call 109; refine HCN.mono ?_; rintro e w6 ⟨rfl, hq6, ht6⟩; have HQ6 : Hid (∃ Q' ra rcap L, RdS w6 base Q' rb (setL D p (l.take k ++ l.drop (k + 1))) g cap ra rcap L /\ ∀ b, Q' b -> Q b \/ w.heap.size <= b) := hq6; have HT6 : Hid (Turn (fun b => b = rb \/ b = g) w w6) := ht6; clear hq6 ht6 HCN))
 go_end0
 exact ⟨rfl, HQ6.out, HT6.out⟩
end Go.Proofs.YtjkgjckkglfokaaGreat.Gr
/- Lists in memory of their own; Parent, Len, Roots, Kids of the program. -/
namespace Go.Proofs.YtjkgjckkglfokaaGreat.Gr
open Go.RowKit
set_option linter.unusedVariables false
set_option linter.unusedSimpArgs false
set_option maxRecDepth 100000
set_option maxHeartbeats 400000
theorem info128 : InfoOf Tryz.prog 124 (.agg #[.string ⟨#[]⟩, .string ⟨#[]⟩]) 2 32 := by unfold InfoOf; kernel_rfl
def FrP (w : World) (e : TypeId) (size n : Nat) (xs : List Value) (en : Ending) (w' : World) : Prop :=
 ∃ a cap, en = .returned (.slice a n cap) /\ w'.ownsRow w.heap.size e size (.slice a n cap) n xs /\ Below w.heap.size w w'
theorem HandsAt.news {w : World} {R : Nat -> Prop} {a : Option Addr} {l : List Nat} (h : HandsAt w R a l) : ∀ j u, (hvals l)[j]? = some u -> ∃ ad, a = some ad /\ w.cell? (ad.add j) = some u := by
 intro j u hu
 simp only [hvals, List.getElem?_map, Option.map_eq_some_iff] at hu
 obtain ⟨x, hx, rfl⟩ := hu
 obtain ⟨b, o, e, _, hc⟩ := h j x hx
 exact ⟨_, e, by rw [addr_plus]; exact hc⟩
theorem AttrsR.news {w : World} {R : Nat -> Prop} {a : Option Addr} {l : List (ByteArray × ByteArray)} (h : AttrsR w R a l) : ∀ j u, (attrCells l)[j]? = some u -> ∃ ad, a = some ad /\ w.cell? (ad.add j) = some u := by
 intro j u hu
 have hlt := (List.getElem?_eq_some_iff.1 hu).1
 rw [attrCells_length] at hlt
 obtain ⟨p, hp⟩ : ∃ p, l[j / 2]? = some p := ⟨_, List.getElem?_eq_getElem (by omega)⟩
 obtain ⟨b, o, rfl, _, h1, h2⟩ := h _ p hp
 obtain ⟨g1, g2⟩ := attrCells_get l _ p hp
 refine ⟨_, rfl, ?_⟩
 rw [addr_plus]
 rcases Nat.mod_two_eq_zero_or_one j with e | e
 ·have ej : j / 2 * 2 = j := by omega
  rw [ej] at g1 h1
  rw [hu] at g1
  rw [h1, Option.some.inj g1]
 ·have ej : j / 2 * 2 + 1 = j := by omega
  rw [ej] at g2
  rw [Nat.add_assoc, ej] at h2
  rw [hu] at g2
  rw [h2, Option.some.inj g2]
theorem freshH_any (w : World) (R : Nat -> Prop) (a : Option Addr) (l : List Nat) (cap : Nat) (h : HandsAt w R a l) (hl : l.length <= 1000000) :
  Calls Tryz.prog 55 #[.slice a l.length cap] w (FrP w 27 1 l.length (hvals l)) := by
 have HN := hid h.news
 have HL : Hid ((hvals l).length = l.length * 1) := by show _ = _; rw [hvals_length]; omega
 clear h
 have tok : True := trivial
 go_enter Tryz.func55, Tryz.ntmps55
 go_wp2_with (at_builtin; have _t := tok; refine wpList_app rfl _ _ rfl Tryz.underlying23 info42 rfl (by decide) w.heap.size (.slice none 0 0) 0 [] rfl (own_nil _ _ _ _) a l.length cap (hvals l) rfl HL.out HN.out (hvals_one _) (by unfold maxLen; omega) (by omega) (Nat.le_refl _) ?_; intro v1 w1 hown1 hg1 _ hat1; clear tok _t; obtain ⟨va, vc, hv1⟩ := own_slice hown1; subst hv1; rw [Nat.zero_add, List.nil_append] at hown1; rw [Nat.zero_add]; have HO := hid hown1; have HB := hid ((Below.refl _ _).grown hg1 (Nat.le_refl _) (fun k hk => by cases hk)); clear hown1 hg1 hat1)
 go_ret
 exact ⟨va, vc, rfl, HO.out, HB.out⟩
theorem freshA_any (w : World) (R : Nat -> Prop) (a : Option Addr) (l : List (ByteArray × ByteArray)) (cap : Nat) (h : AttrsR w R a l) (hl : l.length <= 1000000) :
  Calls Tryz.prog 98 #[.slice a l.length cap] w (FrP w 124 2 l.length (attrCells l)) := by
 have HN := hid h.news
 have HL := hid (attrCells_length l)
 clear h
 have tok : True := trivial
 go_enter Tryz.func98, Tryz.ntmps98
 go_wp2_with (at_builtin; have _t := tok; refine wpList_app rfl _ _ rfl Tryz.underlying28 info128 rfl (by decide) w.heap.size (.slice none 0 0) 0 [] rfl (own_nil _ _ _ _) a l.length cap (attrCells l) rfl HL.out HN.out (attrCells_one _) (by unfold maxLen; omega) (by omega) (Nat.le_refl _) ?_; intro v1 w1 hown1 hg1 _ hat1; clear tok _t; obtain ⟨va, vc, hv1⟩ := own_slice hown1; subst hv1; rw [Nat.zero_add, List.nil_append] at hown1; rw [Nat.zero_add]; have HO := hid hown1; have HB := hid ((Below.refl _ _).grown hg1 (Nat.le_refl _) (fun k hk => by cases hk)); clear hown1 hg1 hat1)
 go_ret
 exact ⟨va, vc, rfl, HO.out, HB.out⟩
theorem pparent_some (w : World) (R : Nat -> Prop) (db : Nat) (D : Dc) (h i : Nat) (s : Sl) (hv : View w R db D) (hf : Fits D) (hh : h < 18446744073709551616) (ha : atI D.S h = some i) (hs : D.S[i]? = some s) :
  Calls Tryz.prog 60 #[.pointer (some ⟨db, 0, none⟩), .int .u64 (h : Int)] w fun e w' => e = .returned (.tuple #[.int .u64 (s.parent : Int), .int .i64 0]) /\ Below w.heap.size w w' := by
 obtain ⟨b, o, cap, aa, ac, ka, kc, h1, hcl, hbR, c0, c1, c2, c3, c4, c5, c6, c7, -⟩ := hv.slot hs
 have hfi := find_some w R db D h i hv hf hh ha b o cap h1
 have hbl := hv.lt b hbR
 clear hv ha hs c0 c1 c2 c3 c4 c5 c7
 go_enter Tryz.func60, Tryz.ntmps60
 go_wp2_with fail
 refine hfi.mono ?_
 rintro e w1 ⟨rfl, hb1⟩
 obtain ⟨hcc, -⟩ := bcell hb1
 have HB1 := hid hb1
 clear hb1 hfi
 go_wp2
 go_ret2
 exact ⟨rfl, HB1.out⟩
theorem proots_any (w : World) (R : Nat -> Prop) (db : Nat) (D : Dc) (hv : View w R db D) (hl : D.roots.length <= 1000000) :
  Calls Tryz.prog 100 #[.pointer (some ⟨db, 0, none⟩)] w (FrP w 27 1 D.roots.length (hvals D.roots)) := by
 obtain ⟨a, cap, h1, h2, h3⟩ := hv.roots
 have hfr := freshH_any w R a D.roots cap h3 hl
 clear h3 hv
 go_enter Tryz.func100, Tryz.ntmps100
 go_wp2_with fail
 refine hfr.mono ?_
 rintro e w1 ⟨va, vc, rfl, hown, hb⟩
 have HO := hid hown
 have HB := hid hb
 clear hown hb hfr
 go_wp2
 go_ret
 exact ⟨va, vc, rfl, HO.out, HB.out⟩
end Go.Proofs.YtjkgjckkglfokaaGreat.Gr
/- A node put at a place, by the document. -/
namespace Go.Proofs.YtjkgjckkglfokaaGreat.Gr
open Go.RowKit
set_option linter.unusedVariables false
set_option linter.unusedSimpArgs false
set_option maxRecDepth 100000
set_option maxHeartbeats 1000000
theorem sliceAt_zero (b o c : Nat) : sliceAt b o c 0 = some ⟨b, o, none⟩ := by unfold sliceAt; split <;> rfl
attribute [local go_sem] ite_sliceAt sliceAt_zero
def ins (l : List Nat) (k n : Nat) : List Nat := l.take k ++ [n] ++ l.drop k
def setPar (D : Dc) (n p : Nat) : Dc := match atI D.S n with
 | none => D
 | some i => match D.S[i]? with
  | none => D
  | some s => { D with S := D.S.set i { s with parent := p } }
theorem RdS.setPar {w : World} {base : Nat} {Q : Nat -> Prop} {rb : Nat} {D : Dc} {g cap : Nat} {ra : Option Addr} {rcap : Nat} {L : List (Value × Value)} (h : RdS w base Q rb D g cap ra rcap L) {i : Nat} {s : Sl} {q : Value × Value} (hs : D.S[i]? = some s) (hq : L[i]? = some q) (p : Nat) :
  RdS (w.setCell ⟨g, i * 8 + 6, none⟩ (.int .u64 (p : Int))) base Q rb { D with S := D.S.set i { s with parent := p } } g cap ra rcap (L.set i q) :=
 h.store hs hq (by omega) rfl (h.vals i s q hs hq)
theorem setL_at {D : Dc} {p n i : Nat} {l' : List Nat} (ha : atI D.S n = some i) : ∃ s1, (setL D p l').S[i]? = some s1 /\ atI (setL D p l').S n = some i := by
 obtain ⟨s, hs, h1, h2, h3, h4, h5⟩ := atI_some ha
 have key : ∀ S' : List Sl, (∃ s1, S'[i]? = some s1 /\ s1.live = s.live /\ s1.gen = s.gen) -> ∃ s1, S'[i]? = some s1 /\ atI S' n = some i := by
  rintro S' ⟨s1, g1, g2, g3⟩
  refine ⟨s1, g1, ?_⟩
  unfold atI
  rw [if_neg h4, <- h3, g1]
  simp [g2, g3, h1, h2]
 apply key
 unfold setL
 split
 ·exact ⟨s, hs, rfl, rfl⟩
 ·split
  ·exact ⟨s, hs, rfl, rfl⟩
  ·rename_i j hj
   split
   ·exact ⟨s, hs, rfl, rfl⟩
   ·rename_i sj hsj
    have hjl := (List.getElem?_eq_some_iff.1 hsj).1
    by_cases e : j = i
    ·subst e
     rw [hs] at hsj
     cases hsj
     exact ⟨_, List.getElem?_set_self hjl, rfl, rfl⟩
    ·exact ⟨s, by rw [List.getElem?_set_ne e]; exact hs, rfl, rfl⟩
theorem setL_fits {D : Dc} {p : Nat} {l' : List Nat} (h : Fits D) : Fits (setL D p l') := by
 unfold setL
 split
 ·exact ⟨h.len, h.gen⟩
 ·split
  ·exact h
  ·rename_i j hj
   split
   ·exact h
   ·rename_i sj hsj
    refine ⟨by simpa using h.len, fun i s hs => ?_⟩
    have hjl := (List.getElem?_eq_some_iff.1 hsj).1
    by_cases e : j = i
    ·subst e
     simp only at hs
     rw [List.getElem?_set_self hjl] at hs
     cases hs
     exact h.gen j sj hsj
    ·simp only at hs
     rw [List.getElem?_set_ne e] at hs
     exact h.gen i s hs
theorem HandsAt.takeN {w W : World} {R : Nat -> Prop} {b o : Nat} {l : List Nat} (h : HandsAt w R (some ⟨b, o, none⟩) l) (hW : ∀ b o, R b -> W.cell? ⟨b, o, none⟩ = w.cell? ⟨b, o, none⟩) (k : Nat) : ∀ j u, (hvals (l.take k))[j]? = some u -> ∃ ad, some (⟨b, o, none⟩ : Addr) = some ad /\ W.cell? (ad.add j) = some u := by
 have := h.part hW 0 (l.take k) (take_at l k)
 simpa using this
theorem HandsAt.dropN {w W : World} {R : Nat -> Prop} {b o c : Nat} {l : List Nat} (h : HandsAt w R (some ⟨b, o, none⟩) l) (hc : l.length <= c) (hW : ∀ b o, R b -> W.cell? ⟨b, o, none⟩ = w.cell? ⟨b, o, none⟩) (k : Nat) : ∀ j u, (hvals (l.drop k))[j]? = some u -> ∃ ad, sliceAt b o c k = some ad /\ W.cell? (ad.add j) = some u := by
 intro j u hu
 unfold sliceAt
 by_cases e : c = k
 ·rw [show l.drop k = [] from List.drop_eq_nil_of_le (by omega)] at hu
  simp [hvals] at hu
 ·rw [if_neg e]
  exact h.part hW k (l.drop k) (drop_at l k) j u hu
theorem rput_first (w : World) (base : Nat) (Q : Nat -> Prop) (rb : Nat) (D : Dc) (g cap : Nat) (ra : Option Addr) (rcap : Nat) (L : List (Value × Value)) (n p a i k : Nat) (h : RdS w base Q rb D g cap ra rcap L) (hf : Fits D) (hpp : p = 0 \/ ∃ s, sl D p = some s) (hpl : p < 18446744073709551616) (hnl : n < 18446744073709551616) (hll : (lst D p).length <= 4096) (hne : 0 < (lst D p).length) (hai : atI D.S n = some i) (hk : k = 0) :
  Calls Tryz.prog 76 #[.pointer (some ⟨rb, 0, none⟩), .int .u64 (n : Int), .int .u64 (p : Int), .int .i64 1, .int .u64 (a : Int)] w (OutP w base Q rb (setPar (setL D p (ins (lst D p) 0 n)) n p) g cap) := by
 have hvw := h.done.view
 obtain ⟨la, lcap, hlc, hlat, hcal⟩ := rlist_any w _ rb D p hvw hf hpl hpp
 obtain ⟨x0, hx0⟩ : ∃ x, (lst D p)[0]? = some x := ⟨_, List.getElem?_eq_getElem hne⟩
 obtain ⟨lb, lo, rfl, hlbR, -⟩ := hlat 0 x0 hx0
 obtain ⟨s1, hs1, ha1⟩ := setL_at (p := p) (l' := ins (lst D p) 0 n) hai
 have hf1 := setL_fits (p := p) (l' := ins (lst D p) 0 n) hf
 have HS1 : Hid ((setL D p (ins (lst D p) 0 n)).S[i]? = some s1) := hs1
 have HA1 : Hid (atI (setL D p (ins (lst D p) 0 n)).S n = some i) := ha1
 have HF1 : Hid (Fits (setL D p (ins (lst D p) 0 n))) := hf1
 have HD : Hid (RdS w base Q rb D g cap ra rcap L) := h
 have HF : Hid (Fits D) := hf
 have HPP : Hid (p = 0 \/ ∃ s, sl D p = some s) := hpp
 have HLT : Hid (∀ b, ((Q b \/ (base <= b /\ b < w.heap.size)) \/ b = rb) -> b < w.heap.size) := hvw.lt
 have HLAT : Hid (HandsAt w (fun b => (Q b \/ (base <= b /\ b < w.heap.size)) \/ b = rb) (some ⟨lb, lo, none⟩) (lst D p)) := hlat
 clear h hf hpp hai hvw hlat hx0 hs1 ha1 hf1 
 generalize lst D p = l at *
 have tok1 : True := trivial
 have tok2 : True := trivial
 have tok3 : True := trivial
 go_enter Tryz.func76, Tryz.ntmps76
 go_wp2_with fail
 refine hcal.mono ?_
 rintro e w1 ⟨rfl, hb1⟩
 have HB1 : Hid (Below w.heap.size w w1) := hb1
 have HL1 : Hid (HandsAt w1 (fun b => (Q b \/ (base <= b /\ b < w.heap.size)) \/ b = rb) (some ⟨lb, lo, none⟩) l) := HLAT.out.to (fun _ h => h) (fun b o hb => hb1.cell (p := ⟨b, o, none⟩) (HLT.out b hb))
 have hsz := hb1.size
 clear hb1 hcal HLAT
 have HC : Hid (∀ W, Below w1.heap.size w1 W -> ∀ b o, ((Q b \/ (base <= b /\ b < w.heap.size)) \/ b = rb) -> W.cell? ⟨b, o, none⟩ = w1.cell? ⟨b, o, none⟩) := fun W hb b o hR => hb.cell (p := ⟨b, o, none⟩) (by have := HLT.out b hR; show b < w1.heap.size; omega)
 have HB3 : Hid (Below w1.heap.size w1 (w1.alloc (.cells #[] 27))) := below_new' w1 _
 have hT1 : Hid ((hvals (l.take 0)).length = 0 * 1) := by show _ = _; rw [hvals_length, List.length_take]; omega
 have hT2 : Hid ((hvals (l.drop 0)).length = (l.length - 0) * 1) := by show _ = _; rw [hvals_length, List.length_drop]; omega
 go_wp2_with (first
  | (at_builtin; have _t := tok1; refine wpList_app rfl _ _ rfl Tryz.underlying23 info42 rfl (by decide) w1.heap.size (.slice (some ⟨w1.heap.size, 0, none⟩) 0 0) 0 [] rfl (own_new w1 27 1) _ _ _ (hvals (l.take 0)) rfl (by first | exact hT1.out | (simpa using hT1.out)) (HL1.out.takeN (HC.out _ HB3.out) 0) (hvals_one _) (by unfold maxLen; omega) (by omega) (by simp) ?_; intro v1 w4 hown1 hg1 _ hat1; obtain ⟨va1, vc1, hv1⟩ := own_slice hown1; subst hv1; rw [Nat.zero_add, List.nil_append] at hown1; rw [Nat.zero_add]; have HO1 : Hid (w4.ownsRow w1.heap.size 27 1 (.slice va1 0 vc1) 0 (hvals (l.take 0))) := (by first | exact hown1 | simpa using hown1); have HB4 : Hid (Below w1.heap.size w1 w4) := HB3.out.grown hg1 (by simp) (fun k hk => by simp only [Value.ownBlock, Option.some.injEq] at hk; omega); have hs4 := HB4.out.size; clear hown1 hg1 hat1 tok1 _t)
  | (at_builtin; have _t := tok2; refine wpList_app rfl _ _ rfl Tryz.underlying23 info42 rfl (by decide) w1.heap.size (.slice va1 0 vc1) 0 (hvals (l.take 0)) rfl (own_of_block HO1.out (fun k hk => Below.heap_alloc _ _ _ (own_block_lt HO1.out k hk).2)) (some ⟨w4.heap.size, 0, none⟩) 1 1 [.int .u64 (n : Int)] rfl rfl (news_new w4 #[.int .u64 (n : Int)] 27) (by simp [Value.oneCell']) (by unfold maxLen; omega) (by omega) (by simp; omega) ?_; intro v2 w5 hown2 hg2 _ hat2; obtain ⟨va2, vc2, hv2⟩ := own_slice hown2; subst hv2; have HO2 : Hid (w5.ownsRow w1.heap.size 27 1 (.slice va2 (0 + 1) vc2) (0 + 1) (hvals (l.take 0 ++ [n]))) := (by rw [hvals_append]; exact hown2); have HB5 : Hid (Below w1.heap.size w1 w5) := (HB4.out.alloc hs4 _).grown hg2 (by simp; omega) (fun k hk => (own_block_lt HO1.out k hk).1); have hs5 := HB5.out.size; clear hown2 hg2 hat2 tok2 _t)
  | (at_builtin; have _t := tok3; refine wpList_app rfl _ _ rfl Tryz.underlying23 info42 rfl (by decide) w1.heap.size (.slice va2 (0 + 1) vc2) (0 + 1) (hvals (l.take 0 ++ [n])) rfl HO2.out _ _ _ (hvals (l.drop 0)) rfl (by first | exact hT2.out | (simpa using hT2.out) | (have := hT2.out; omega)) (by simpa using HL1.out.takeN (HC.out _ HB5.out) l.length) (hvals_one _) (by unfold maxLen; omega) (by omega) hs5 ?_; intro v3 w6 hown3 hg3 _ hat3; obtain ⟨va3, vc3, hv3⟩ := own_slice hown3; subst hv3; have HB6 : Hid (Below w1.heap.size w1 w6) := HB5.out.grown hg3 hs5 (fun k hk => (own_block_lt HO2.out k hk).1); have HO3 := hown3; rw [<- hvals_append] at HO3; generalize hNN : 0 + 1 + _ = N at HO3 ⊢; have HCN := rset_new w w1 w6 base Q rb D g cap ra rcap L p (ins l 0 n) va3 vc3 N HD.out HF.out HPP.out hpl HB1.out HB6.out (by rw [<- hNN]; simp [ins] <;> omega) HO3; clear hown3 hg3 hat3 tok3 _t hNN HO3))
 refine HCN.mono ?_
 rintro e w7 ⟨rfl, ⟨Q', ra', rcap', L', hr, hQ'⟩, ht7⟩
 clear HCN
 obtain ⟨q, hq, -, hcap, hhd, hcl⟩ := hr.slot HS1.out
 have hat := rat_any w7.drew _ rb _ n (hr.done.view.below ((Below.refl _ _).drew)) HF1.out hnl
 rw [atR_some HA1.out] at hat
 have hc6 := (hcl 6 _ rfl).1
 have hf6 := (hcl 6 _ rfl).2
 have hil : (i : Int) < (((setL D p (ins l 0 n)).S.length : Nat) : Int) := by have := (List.getElem?_eq_some_iff.1 HS1.out).1; omega
 have hl4 := HF1.out.len
 have hgs := hr.gb
 have hgr : ¬ g = rb := by have := hr.rbl; omega
 have hgr2 : ¬ rb = g := by omega
 have e1 : setPar (setL D p (ins l 0 n)) n p = { (setL D p (ins l 0 n)) with S := (setL D p (ins l 0 n)).S.set i { s1 with parent := p } } := by simp only [setPar, HA1.out, HS1.out]
 have HE : Hid (setPar (setL D p (ins l 0 n)) n p = { (setL D p (ins l 0 n)) with S := (setL D p (ins l 0 n)).S.set i { s1 with parent := p } }) := e1
 have HR : Hid (RdS ((w7.drew).setCell ⟨g, i * 8 + 6, none⟩ (.int .u64 (p : Int))) base Q' rb { (setL D p (ins l 0 n)) with S := (setL D p (ins l 0 n)).S.set i { s1 with parent := p } } g cap ra' rcap' (L'.set i q)) := (hr.below ((Below.refl _ _).drew)).setPar HS1.out hq p
 have HQ : Hid (∀ b, Q' b -> Q b \/ w.heap.size <= b) := hQ'
 have HT : Hid (Turn (fun b => b = rb \/ b = g) w w7) := ht7
 generalize (setL D p (ins l 0 n)).S.length = SL at *
 clear hr hq hcl e1 hQ' ht7
 go_wp2_with fail
 go_region_held3 (fun w' => w'.cell? ⟨rb, 0, none⟩ = some (.slice (some ⟨g, 0, none⟩) SL cap)) (go_keep) (first | (go_at_call 28; refine hat.mono ?_; rintro e w8 ⟨rfl, rfl⟩))
 go_end0
 refine ⟨rfl, ⟨Q', ra', rcap', _, by rw [HE.out]; exact HR.out, HQ.out⟩, ?_⟩
 exact (Turn.setCell (A := fun b => b = rb \/ b = g) HT.out (p := ⟨g, i * 8 + 6, none⟩) (.inr rfl) _).drew
theorem rput_last (w : World) (base : Nat) (Q : Nat -> Prop) (rb : Nat) (D : Dc) (g cap : Nat) (ra : Option Addr) (rcap : Nat) (L : List (Value × Value)) (n p a i k : Nat) (h : RdS w base Q rb D g cap ra rcap L) (hf : Fits D) (hpp : p = 0 \/ ∃ s, sl D p = some s) (hpl : p < 18446744073709551616) (hnl : n < 18446744073709551616) (hll : (lst D p).length <= 4096) (hne : 0 < (lst D p).length) (hai : atI D.S n = some i) (hk : k = 0) :
  Calls Tryz.prog 76 #[.pointer (some ⟨rb, 0, none⟩), .int .u64 (n : Int), .int .u64 (p : Int), .int .i64 2, .int .u64 (a : Int)] w (OutP w base Q rb (setPar (setL D p (ins (lst D p) (lst D p).length n)) n p) g cap) := by
 have hvw := h.done.view
 obtain ⟨la, lcap, hlc, hlat, hcal⟩ := rlist_any w _ rb D p hvw hf hpl hpp
 obtain ⟨x0, hx0⟩ : ∃ x, (lst D p)[0]? = some x := ⟨_, List.getElem?_eq_getElem hne⟩
 obtain ⟨lb, lo, rfl, hlbR, -⟩ := hlat 0 x0 hx0
 obtain ⟨s1, hs1, ha1⟩ := setL_at (p := p) (l' := ins (lst D p) (lst D p).length n) hai
 have hf1 := setL_fits (p := p) (l' := ins (lst D p) (lst D p).length n) hf
 have HS1 : Hid ((setL D p (ins (lst D p) (lst D p).length n)).S[i]? = some s1) := hs1
 have HA1 : Hid (atI (setL D p (ins (lst D p) (lst D p).length n)).S n = some i) := ha1
 have HF1 : Hid (Fits (setL D p (ins (lst D p) (lst D p).length n))) := hf1
 have HD : Hid (RdS w base Q rb D g cap ra rcap L) := h
 have HF : Hid (Fits D) := hf
 have HPP : Hid (p = 0 \/ ∃ s, sl D p = some s) := hpp
 have HLT : Hid (∀ b, ((Q b \/ (base <= b /\ b < w.heap.size)) \/ b = rb) -> b < w.heap.size) := hvw.lt
 have HLAT : Hid (HandsAt w (fun b => (Q b \/ (base <= b /\ b < w.heap.size)) \/ b = rb) (some ⟨lb, lo, none⟩) (lst D p)) := hlat
 clear h hf hpp hai hvw hlat hx0 hs1 ha1 hf1 
 generalize lst D p = l at *
 have tok1 : True := trivial
 have tok2 : True := trivial
 have tok3 : True := trivial
 go_enter Tryz.func76, Tryz.ntmps76
 go_wp2_with fail
 refine hcal.mono ?_
 rintro e w1 ⟨rfl, hb1⟩
 have HB1 : Hid (Below w.heap.size w w1) := hb1
 have HL1 : Hid (HandsAt w1 (fun b => (Q b \/ (base <= b /\ b < w.heap.size)) \/ b = rb) (some ⟨lb, lo, none⟩) l) := HLAT.out.to (fun _ h => h) (fun b o hb => hb1.cell (p := ⟨b, o, none⟩) (HLT.out b hb))
 have hsz := hb1.size
 clear hb1 hcal HLAT
 have HC : Hid (∀ W, Below w1.heap.size w1 W -> ∀ b o, ((Q b \/ (base <= b /\ b < w.heap.size)) \/ b = rb) -> W.cell? ⟨b, o, none⟩ = w1.cell? ⟨b, o, none⟩) := fun W hb b o hR => hb.cell (p := ⟨b, o, none⟩) (by have := HLT.out b hR; show b < w1.heap.size; omega)
 have HB3 : Hid (Below w1.heap.size w1 (w1.alloc (.cells #[] 27))) := below_new' w1 _
 have hT1 : Hid ((hvals (l.take l.length)).length = l.length * 1) := by show _ = _; rw [hvals_length, List.length_take]; omega
 have hT2 : Hid ((hvals (l.drop l.length)).length = (l.length - l.length) * 1) := by show _ = _; rw [hvals_length, List.length_drop]; omega
 go_wp2_with (first
  | (at_builtin; have _t := tok1; refine wpList_app rfl _ _ rfl Tryz.underlying23 info42 rfl (by decide) w1.heap.size (.slice (some ⟨w1.heap.size, 0, none⟩) 0 0) 0 [] rfl (own_new w1 27 1) _ _ _ (hvals (l.take l.length)) rfl (by first | exact hT1.out | (simpa using hT1.out)) (HL1.out.takeN (HC.out _ HB3.out) l.length) (hvals_one _) (by unfold maxLen; omega) (by omega) (by simp) ?_; intro v1 w4 hown1 hg1 _ hat1; obtain ⟨va1, vc1, hv1⟩ := own_slice hown1; subst hv1; rw [Nat.zero_add, List.nil_append] at hown1; rw [Nat.zero_add]; have HO1 : Hid (w4.ownsRow w1.heap.size 27 1 (.slice va1 l.length vc1) l.length (hvals (l.take l.length))) := (by first | exact hown1 | simpa using hown1); have HB4 : Hid (Below w1.heap.size w1 w4) := HB3.out.grown hg1 (by simp) (fun k hk => by simp only [Value.ownBlock, Option.some.injEq] at hk; omega); have hs4 := HB4.out.size; clear hown1 hg1 hat1 tok1 _t)
  | (at_builtin; have _t := tok2; refine wpList_app rfl _ _ rfl Tryz.underlying23 info42 rfl (by decide) w1.heap.size (.slice va1 l.length vc1) l.length (hvals (l.take l.length)) rfl (own_of_block HO1.out (fun k hk => Below.heap_alloc _ _ _ (own_block_lt HO1.out k hk).2)) (some ⟨w4.heap.size, 0, none⟩) 1 1 [.int .u64 (n : Int)] rfl rfl (news_new w4 #[.int .u64 (n : Int)] 27) (by simp [Value.oneCell']) (by unfold maxLen; omega) (by omega) (by simp; omega) ?_; intro v2 w5 hown2 hg2 _ hat2; obtain ⟨va2, vc2, hv2⟩ := own_slice hown2; subst hv2; have HO2 : Hid (w5.ownsRow w1.heap.size 27 1 (.slice va2 (l.length + 1) vc2) (l.length + 1) (hvals (l.take l.length ++ [n]))) := (by rw [hvals_append]; exact hown2); have HB5 : Hid (Below w1.heap.size w1 w5) := (HB4.out.alloc hs4 _).grown hg2 (by simp; omega) (fun k hk => (own_block_lt HO1.out k hk).1); have hs5 := HB5.out.size; clear hown2 hg2 hat2 tok2 _t)
  | (at_builtin; have _t := tok3; refine wpList_app rfl _ _ rfl Tryz.underlying23 info42 rfl (by decide) w1.heap.size (.slice va2 (l.length + 1) vc2) (l.length + 1) (hvals (l.take l.length ++ [n])) rfl HO2.out _ _ _ (hvals (l.drop l.length)) rfl (by first | exact hT2.out | (simpa using hT2.out) | (have := hT2.out; omega)) (HL1.out.dropN hlc (HC.out _ HB5.out) _) (hvals_one _) (by unfold maxLen; omega) (by omega) hs5 ?_; intro v3 w6 hown3 hg3 _ hat3; obtain ⟨va3, vc3, hv3⟩ := own_slice hown3; subst hv3; have HB6 : Hid (Below w1.heap.size w1 w6) := HB5.out.grown hg3 hs5 (fun k hk => (own_block_lt HO2.out k hk).1); have HO3 := hown3; rw [<- hvals_append] at HO3; generalize hNN : l.length + 1 + _ = N at HO3 ⊢; have HCN := rset_new w w1 w6 base Q rb D g cap ra rcap L p (ins l l.length n) va3 vc3 N HD.out HF.out HPP.out hpl HB1.out HB6.out (by rw [<- hNN]; simp [ins] <;> omega) HO3; clear hown3 hg3 hat3 tok3 _t hNN HO3))
 refine HCN.mono ?_
 rintro e w7 ⟨rfl, ⟨Q', ra', rcap', L', hr, hQ'⟩, ht7⟩
 clear HCN
 obtain ⟨q, hq, -, hcap, hhd, hcl⟩ := hr.slot HS1.out
 have hat := rat_any w7.drew _ rb _ n (hr.done.view.below ((Below.refl _ _).drew)) HF1.out hnl
 rw [atR_some HA1.out] at hat
 have hc6 := (hcl 6 _ rfl).1
 have hf6 := (hcl 6 _ rfl).2
 have hil : (i : Int) < (((setL D p (ins l l.length n)).S.length : Nat) : Int) := by have := (List.getElem?_eq_some_iff.1 HS1.out).1; omega
 have hl4 := HF1.out.len
 have hgs := hr.gb
 have hgr : ¬ g = rb := by have := hr.rbl; omega
 have hgr2 : ¬ rb = g := by omega
 have e1 : setPar (setL D p (ins l l.length n)) n p = { (setL D p (ins l l.length n)) with S := (setL D p (ins l l.length n)).S.set i { s1 with parent := p } } := by simp only [setPar, HA1.out, HS1.out]
 have HE : Hid (setPar (setL D p (ins l l.length n)) n p = { (setL D p (ins l l.length n)) with S := (setL D p (ins l l.length n)).S.set i { s1 with parent := p } }) := e1
 have HR : Hid (RdS ((w7.drew).setCell ⟨g, i * 8 + 6, none⟩ (.int .u64 (p : Int))) base Q' rb { (setL D p (ins l l.length n)) with S := (setL D p (ins l l.length n)).S.set i { s1 with parent := p } } g cap ra' rcap' (L'.set i q)) := (hr.below ((Below.refl _ _).drew)).setPar HS1.out hq p
 have HQ : Hid (∀ b, Q' b -> Q b \/ w.heap.size <= b) := hQ'
 have HT : Hid (Turn (fun b => b = rb \/ b = g) w w7) := ht7
 generalize (setL D p (ins l l.length n)).S.length = SL at *
 clear hr hq hcl e1 hQ' ht7
 go_wp2_with fail
 go_region_held3 (fun w' => w'.cell? ⟨rb, 0, none⟩ = some (.slice (some ⟨g, 0, none⟩) SL cap)) (go_keep) (first | (go_at_call 28; refine hat.mono ?_; rintro e w8 ⟨rfl, rfl⟩))
 go_end0
 refine ⟨rfl, ⟨Q', ra', rcap', _, by rw [HE.out]; exact HR.out, HQ.out⟩, ?_⟩
 exact (Turn.setCell (A := fun b => b = rb \/ b = g) HT.out (p := ⟨g, i * 8 + 6, none⟩) (.inr rfl) _).drew
theorem rput_before (w : World) (base : Nat) (Q : Nat -> Prop) (rb : Nat) (D : Dc) (g cap : Nat) (ra : Option Addr) (rcap : Nat) (L : List (Value × Value)) (n p a i k : Nat) (h : RdS w base Q rb D g cap ra rcap L) (hf : Fits D) (hpp : p = 0 \/ ∃ s, sl D p = some s) (hpl : p < 18446744073709551616) (hnl : n < 18446744073709551616) (hll : (lst D p).length <= 4096) (hne : 0 < (lst D p).length) (hai : atI D.S n = some i) (hix : idxH (lst D p) a = (k : Int)) (hkl : k < (lst D p).length) :
  Calls Tryz.prog 76 #[.pointer (some ⟨rb, 0, none⟩), .int .u64 (n : Int), .int .u64 (p : Int), .int .i64 3, .int .u64 (a : Int)] w (OutP w base Q rb (setPar (setL D p (ins (lst D p) k n)) n p) g cap) := by
 have hvw := h.done.view
 obtain ⟨la, lcap, hlc, hlat, hcal⟩ := rlist_any w _ rb D p hvw hf hpl hpp
 obtain ⟨x0, hx0⟩ : ∃ x, (lst D p)[0]? = some x := ⟨_, List.getElem?_eq_getElem hne⟩
 obtain ⟨lb, lo, rfl, hlbR, -⟩ := hlat 0 x0 hx0
 obtain ⟨s1, hs1, ha1⟩ := setL_at (p := p) (l' := ins (lst D p) k n) hai
 have hf1 := setL_fits (p := p) (l' := ins (lst D p) k n) hf
 have HS1 : Hid ((setL D p (ins (lst D p) k n)).S[i]? = some s1) := hs1
 have HA1 : Hid (atI (setL D p (ins (lst D p) k n)).S n = some i) := ha1
 have HF1 : Hid (Fits (setL D p (ins (lst D p) k n))) := hf1
 have HD : Hid (RdS w base Q rb D g cap ra rcap L) := h
 have HF : Hid (Fits D) := hf
 have HPP : Hid (p = 0 \/ ∃ s, sl D p = some s) := hpp
 have HLT : Hid (∀ b, ((Q b \/ (base <= b /\ b < w.heap.size)) \/ b = rb) -> b < w.heap.size) := hvw.lt
 have HLAT : Hid (HandsAt w (fun b => (Q b \/ (base <= b /\ b < w.heap.size)) \/ b = rb) (some ⟨lb, lo, none⟩) (lst D p)) := hlat
 have HIX : Hid (idxH (lst D p) a = (k : Int)) := hix
 clear h hf hpp hai hvw hlat hx0 hs1 ha1 hf1 hix
 generalize lst D p = l at *
 have tok1 : True := trivial
 have tok2 : True := trivial
 have tok3 : True := trivial
 go_enter Tryz.func76, Tryz.ntmps76
 go_wp2_with fail
 refine hcal.mono ?_
 rintro e w1 ⟨rfl, hb1⟩
 have HB1 : Hid (Below w.heap.size w w1) := hb1
 have HL1 : Hid (HandsAt w1 (fun b => (Q b \/ (base <= b /\ b < w.heap.size)) \/ b = rb) (some ⟨lb, lo, none⟩) l) := HLAT.out.to (fun _ h => h) (fun b o hb => hb1.cell (p := ⟨b, o, none⟩) (HLT.out b hb))
 have hsz := hb1.size
 clear hb1 hcal HLAT
 have hfi := rfind_any w1 _ _ l lcap a HL1.out (by omega) _ HIX.out
 go_wp2_with fail
 refine hfi.mono ?_
 rintro e w2 ⟨rfl, rfl⟩
 clear hfi
 have HC : Hid (∀ W, Below w2.heap.size w2 W -> ∀ b o, ((Q b \/ (base <= b /\ b < w.heap.size)) \/ b = rb) -> W.cell? ⟨b, o, none⟩ = w2.cell? ⟨b, o, none⟩) := fun W hb b o hR => hb.cell (p := ⟨b, o, none⟩) (by have := HLT.out b hR; show b < w2.heap.size; omega)
 have HB3 : Hid (Below w2.heap.size w2 (w2.alloc (.cells #[] 27))) := below_new' w2 _
 have hT1 : Hid ((hvals (l.take k)).length = k * 1) := by show _ = _; rw [hvals_length, List.length_take]; omega
 have hT2 : Hid ((hvals (l.drop k)).length = (l.length - k) * 1) := by show _ = _; rw [hvals_length, List.length_drop]; omega
 go_wp2_with (first
  | (at_builtin; have _t := tok1; refine wpList_app rfl _ _ rfl Tryz.underlying23 info42 rfl (by decide) w2.heap.size (.slice (some ⟨w2.heap.size, 0, none⟩) 0 0) 0 [] rfl (own_new w2 27 1) _ _ _ (hvals (l.take k)) rfl (by first | exact hT1.out | (simpa using hT1.out)) (HL1.out.takeN (HC.out _ HB3.out) k) (hvals_one _) (by unfold maxLen; omega) (by omega) (by simp) ?_; intro v1 w4 hown1 hg1 _ hat1; obtain ⟨va1, vc1, hv1⟩ := own_slice hown1; subst hv1; rw [Nat.zero_add, List.nil_append] at hown1; rw [Nat.zero_add]; have HO1 : Hid (w4.ownsRow w2.heap.size 27 1 (.slice va1 k vc1) k (hvals (l.take k))) := (by first | exact hown1 | simpa using hown1); have HB4 : Hid (Below w2.heap.size w2 w4) := HB3.out.grown hg1 (by simp) (fun k hk => by simp only [Value.ownBlock, Option.some.injEq] at hk; omega); have hs4 := HB4.out.size; clear hown1 hg1 hat1 tok1 _t)
  | (at_builtin; have _t := tok2; refine wpList_app rfl _ _ rfl Tryz.underlying23 info42 rfl (by decide) w2.heap.size (.slice va1 k vc1) k (hvals (l.take k)) rfl (own_of_block HO1.out (fun k hk => Below.heap_alloc _ _ _ (own_block_lt HO1.out k hk).2)) (some ⟨w4.heap.size, 0, none⟩) 1 1 [.int .u64 (n : Int)] rfl rfl (news_new w4 #[.int .u64 (n : Int)] 27) (by simp [Value.oneCell']) (by unfold maxLen; omega) (by omega) (by simp; omega) ?_; intro v2 w5 hown2 hg2 _ hat2; obtain ⟨va2, vc2, hv2⟩ := own_slice hown2; subst hv2; have HO2 : Hid (w5.ownsRow w2.heap.size 27 1 (.slice va2 (k + 1) vc2) (k + 1) (hvals (l.take k ++ [n]))) := (by rw [hvals_append]; exact hown2); have HB5 : Hid (Below w2.heap.size w2 w5) := (HB4.out.alloc hs4 _).grown hg2 (by simp; omega) (fun k hk => (own_block_lt HO1.out k hk).1); have hs5 := HB5.out.size; clear hown2 hg2 hat2 tok2 _t)
  | (at_builtin; have _t := tok3; refine wpList_app rfl _ _ rfl Tryz.underlying23 info42 rfl (by decide) w2.heap.size (.slice va2 (k + 1) vc2) (k + 1) (hvals (l.take k ++ [n])) rfl HO2.out _ _ _ (hvals (l.drop k)) rfl (by first | exact hT2.out | (simpa using hT2.out) | (have := hT2.out; omega)) (HL1.out.dropN hlc (HC.out _ HB5.out) k) (hvals_one _) (by unfold maxLen; omega) (by omega) hs5 ?_; intro v3 w6 hown3 hg3 _ hat3; obtain ⟨va3, vc3, hv3⟩ := own_slice hown3; subst hv3; have HB6 : Hid (Below w2.heap.size w2 w6) := HB5.out.grown hg3 hs5 (fun k hk => (own_block_lt HO2.out k hk).1); have HO3 := hown3; rw [<- hvals_append] at HO3; generalize hNN : k + 1 + _ = N at HO3 ⊢; have HCN := rset_new w w2 w6 base Q rb D g cap ra rcap L p (ins l k n) va3 vc3 N HD.out HF.out HPP.out hpl HB1.out HB6.out (by rw [<- hNN]; simp [ins] <;> omega) HO3; clear hown3 hg3 hat3 tok3 _t hNN HO3))
 refine HCN.mono ?_
 rintro e w7 ⟨rfl, ⟨Q', ra', rcap', L', hr, hQ'⟩, ht7⟩
 clear HCN
 obtain ⟨q, hq, -, hcap, hhd, hcl⟩ := hr.slot HS1.out
 have hat := rat_any w7.drew _ rb _ n (hr.done.view.below ((Below.refl _ _).drew)) HF1.out hnl
 rw [atR_some HA1.out] at hat
 have hc6 := (hcl 6 _ rfl).1
 have hf6 := (hcl 6 _ rfl).2
 have hil : (i : Int) < (((setL D p (ins l k n)).S.length : Nat) : Int) := by have := (List.getElem?_eq_some_iff.1 HS1.out).1; omega
 have hl4 := HF1.out.len
 have hgs := hr.gb
 have hgr : ¬ g = rb := by have := hr.rbl; omega
 have hgr2 : ¬ rb = g := by omega
 have e1 : setPar (setL D p (ins l k n)) n p = { (setL D p (ins l k n)) with S := (setL D p (ins l k n)).S.set i { s1 with parent := p } } := by simp only [setPar, HA1.out, HS1.out]
 have HE : Hid (setPar (setL D p (ins l k n)) n p = { (setL D p (ins l k n)) with S := (setL D p (ins l k n)).S.set i { s1 with parent := p } }) := e1
 have HR : Hid (RdS ((w7.drew).setCell ⟨g, i * 8 + 6, none⟩ (.int .u64 (p : Int))) base Q' rb { (setL D p (ins l k n)) with S := (setL D p (ins l k n)).S.set i { s1 with parent := p } } g cap ra' rcap' (L'.set i q)) := (hr.below ((Below.refl _ _).drew)).setPar HS1.out hq p
 have HQ : Hid (∀ b, Q' b -> Q b \/ w.heap.size <= b) := hQ'
 have HT : Hid (Turn (fun b => b = rb \/ b = g) w w7) := ht7
 generalize (setL D p (ins l k n)).S.length = SL at *
 clear hr hq hcl e1 hQ' ht7
 go_wp2_with fail
 go_region_held3 (fun w' => w'.cell? ⟨rb, 0, none⟩ = some (.slice (some ⟨g, 0, none⟩) SL cap)) (go_keep) (first | (go_at_call 28; refine hat.mono ?_; rintro e w8 ⟨rfl, rfl⟩))
 go_end0
 refine ⟨rfl, ⟨Q', ra', rcap', _, by rw [HE.out]; exact HR.out, HQ.out⟩, ?_⟩
 exact (Turn.setCell (A := fun b => b = rb \/ b = g) HT.out (p := ⟨g, i * 8 + 6, none⟩) (.inr rfl) _).drew
theorem rput_after (w : World) (base : Nat) (Q : Nat -> Prop) (rb : Nat) (D : Dc) (g cap : Nat) (ra : Option Addr) (rcap : Nat) (L : List (Value × Value)) (n p a i k : Nat) (h : RdS w base Q rb D g cap ra rcap L) (hf : Fits D) (hpp : p = 0 \/ ∃ s, sl D p = some s) (hpl : p < 18446744073709551616) (hnl : n < 18446744073709551616) (hll : (lst D p).length <= 4096) (hne : 0 < (lst D p).length) (hai : atI D.S n = some i) (hix : idxH (lst D p) a = (k : Int)) (hkl : k < (lst D p).length) :
  Calls Tryz.prog 76 #[.pointer (some ⟨rb, 0, none⟩), .int .u64 (n : Int), .int .u64 (p : Int), .int .i64 4, .int .u64 (a : Int)] w (OutP w base Q rb (setPar (setL D p (ins (lst D p) (k + 1) n)) n p) g cap) := by
 have hvw := h.done.view
 obtain ⟨la, lcap, hlc, hlat, hcal⟩ := rlist_any w _ rb D p hvw hf hpl hpp
 obtain ⟨x0, hx0⟩ : ∃ x, (lst D p)[0]? = some x := ⟨_, List.getElem?_eq_getElem hne⟩
 obtain ⟨lb, lo, rfl, hlbR, -⟩ := hlat 0 x0 hx0
 obtain ⟨s1, hs1, ha1⟩ := setL_at (p := p) (l' := ins (lst D p) (k + 1) n) hai
 have hf1 := setL_fits (p := p) (l' := ins (lst D p) (k + 1) n) hf
 have HS1 : Hid ((setL D p (ins (lst D p) (k + 1) n)).S[i]? = some s1) := hs1
 have HA1 : Hid (atI (setL D p (ins (lst D p) (k + 1) n)).S n = some i) := ha1
 have HF1 : Hid (Fits (setL D p (ins (lst D p) (k + 1) n))) := hf1
 have HD : Hid (RdS w base Q rb D g cap ra rcap L) := h
 have HF : Hid (Fits D) := hf
 have HPP : Hid (p = 0 \/ ∃ s, sl D p = some s) := hpp
 have HLT : Hid (∀ b, ((Q b \/ (base <= b /\ b < w.heap.size)) \/ b = rb) -> b < w.heap.size) := hvw.lt
 have HLAT : Hid (HandsAt w (fun b => (Q b \/ (base <= b /\ b < w.heap.size)) \/ b = rb) (some ⟨lb, lo, none⟩) (lst D p)) := hlat
 have HIX : Hid (idxH (lst D p) a = (k : Int)) := hix
 clear h hf hpp hai hvw hlat hx0 hs1 ha1 hf1 hix
 generalize lst D p = l at *
 have tok1 : True := trivial
 have tok2 : True := trivial
 have tok3 : True := trivial
 go_enter Tryz.func76, Tryz.ntmps76
 go_wp2_with fail
 refine hcal.mono ?_
 rintro e w1 ⟨rfl, hb1⟩
 have HB1 : Hid (Below w.heap.size w w1) := hb1
 have HL1 : Hid (HandsAt w1 (fun b => (Q b \/ (base <= b /\ b < w.heap.size)) \/ b = rb) (some ⟨lb, lo, none⟩) l) := HLAT.out.to (fun _ h => h) (fun b o hb => hb1.cell (p := ⟨b, o, none⟩) (HLT.out b hb))
 have hsz := hb1.size
 clear hb1 hcal HLAT
 have hfi := rfind_any w1 _ _ l lcap a HL1.out (by omega) _ HIX.out
 go_wp2_with fail
 refine hfi.mono ?_
 rintro e w2 ⟨rfl, rfl⟩
 clear hfi
 have HC : Hid (∀ W, Below w2.heap.size w2 W -> ∀ b o, ((Q b \/ (base <= b /\ b < w.heap.size)) \/ b = rb) -> W.cell? ⟨b, o, none⟩ = w2.cell? ⟨b, o, none⟩) := fun W hb b o hR => hb.cell (p := ⟨b, o, none⟩) (by have := HLT.out b hR; show b < w2.heap.size; omega)
 have HB3 : Hid (Below w2.heap.size w2 (w2.alloc (.cells #[] 27))) := below_new' w2 _
 have hT1 : Hid ((hvals (l.take (k + 1))).length = (k + 1) * 1) := by show _ = _; rw [hvals_length, List.length_take]; omega
 have hT2 : Hid ((hvals (l.drop (k + 1))).length = (l.length - (k + 1)) * 1) := by show _ = _; rw [hvals_length, List.length_drop]; omega
 go_wp2_with (first
  | (at_builtin; have _t := tok1; refine wpList_app rfl _ _ rfl Tryz.underlying23 info42 rfl (by decide) w2.heap.size (.slice (some ⟨w2.heap.size, 0, none⟩) 0 0) 0 [] rfl (own_new w2 27 1) _ _ _ (hvals (l.take (k + 1))) rfl (by first | exact hT1.out | (simpa using hT1.out)) (HL1.out.takeN (HC.out _ HB3.out) (k + 1)) (hvals_one _) (by unfold maxLen; omega) (by omega) (by simp) ?_; intro v1 w4 hown1 hg1 _ hat1; obtain ⟨va1, vc1, hv1⟩ := own_slice hown1; subst hv1; rw [Nat.zero_add, List.nil_append] at hown1; rw [Nat.zero_add]; have HO1 : Hid (w4.ownsRow w2.heap.size 27 1 (.slice va1 (k + 1) vc1) (k + 1) (hvals (l.take (k + 1)))) := (by first | exact hown1 | simpa using hown1); have HB4 : Hid (Below w2.heap.size w2 w4) := HB3.out.grown hg1 (by simp) (fun k hk => by simp only [Value.ownBlock, Option.some.injEq] at hk; omega); have hs4 := HB4.out.size; clear hown1 hg1 hat1 tok1 _t)
  | (at_builtin; have _t := tok2; refine wpList_app rfl _ _ rfl Tryz.underlying23 info42 rfl (by decide) w2.heap.size (.slice va1 (k + 1) vc1) (k + 1) (hvals (l.take (k + 1))) rfl (own_of_block HO1.out (fun k hk => Below.heap_alloc _ _ _ (own_block_lt HO1.out k hk).2)) (some ⟨w4.heap.size, 0, none⟩) 1 1 [.int .u64 (n : Int)] rfl rfl (news_new w4 #[.int .u64 (n : Int)] 27) (by simp [Value.oneCell']) (by unfold maxLen; omega) (by omega) (by simp; omega) ?_; intro v2 w5 hown2 hg2 _ hat2; obtain ⟨va2, vc2, hv2⟩ := own_slice hown2; subst hv2; have HO2 : Hid (w5.ownsRow w2.heap.size 27 1 (.slice va2 ((k + 1) + 1) vc2) ((k + 1) + 1) (hvals (l.take (k + 1) ++ [n]))) := (by rw [hvals_append]; exact hown2); have HB5 : Hid (Below w2.heap.size w2 w5) := (HB4.out.alloc hs4 _).grown hg2 (by simp; omega) (fun k hk => (own_block_lt HO1.out k hk).1); have hs5 := HB5.out.size; clear hown2 hg2 hat2 tok2 _t)
  | (at_builtin; have _t := tok3; refine wpList_app rfl _ _ rfl Tryz.underlying23 info42 rfl (by decide) w2.heap.size (.slice va2 ((k + 1) + 1) vc2) ((k + 1) + 1) (hvals (l.take (k + 1) ++ [n])) rfl HO2.out _ _ _ (hvals (l.drop (k + 1))) rfl (by first | exact hT2.out | (simpa using hT2.out) | (have := hT2.out; omega)) (HL1.out.dropN hlc (HC.out _ HB5.out) (k + 1)) (hvals_one _) (by unfold maxLen; omega) (by omega) hs5 ?_; intro v3 w6 hown3 hg3 _ hat3; obtain ⟨va3, vc3, hv3⟩ := own_slice hown3; subst hv3; have HB6 : Hid (Below w2.heap.size w2 w6) := HB5.out.grown hg3 hs5 (fun k hk => (own_block_lt HO2.out k hk).1); have HO3 := hown3; rw [<- hvals_append] at HO3; generalize hNN : (k + 1) + 1 + _ = N at HO3 ⊢; have HCN := rset_new w w2 w6 base Q rb D g cap ra rcap L p (ins l (k + 1) n) va3 vc3 N HD.out HF.out HPP.out hpl HB1.out HB6.out (by rw [<- hNN]; simp [ins] <;> omega) HO3; clear hown3 hg3 hat3 tok3 _t hNN HO3))
 refine HCN.mono ?_
 rintro e w7 ⟨rfl, ⟨Q', ra', rcap', L', hr, hQ'⟩, ht7⟩
 clear HCN
 obtain ⟨q, hq, -, hcap, hhd, hcl⟩ := hr.slot HS1.out
 have hat := rat_any w7.drew _ rb _ n (hr.done.view.below ((Below.refl _ _).drew)) HF1.out hnl
 rw [atR_some HA1.out] at hat
 have hc6 := (hcl 6 _ rfl).1
 have hf6 := (hcl 6 _ rfl).2
 have hil : (i : Int) < (((setL D p (ins l (k + 1) n)).S.length : Nat) : Int) := by have := (List.getElem?_eq_some_iff.1 HS1.out).1; omega
 have hl4 := HF1.out.len
 have hgs := hr.gb
 have hgr : ¬ g = rb := by have := hr.rbl; omega
 have hgr2 : ¬ rb = g := by omega
 have e1 : setPar (setL D p (ins l (k + 1) n)) n p = { (setL D p (ins l (k + 1) n)) with S := (setL D p (ins l (k + 1) n)).S.set i { s1 with parent := p } } := by simp only [setPar, HA1.out, HS1.out]
 have HE : Hid (setPar (setL D p (ins l (k + 1) n)) n p = { (setL D p (ins l (k + 1) n)) with S := (setL D p (ins l (k + 1) n)).S.set i { s1 with parent := p } }) := e1
 have HR : Hid (RdS ((w7.drew).setCell ⟨g, i * 8 + 6, none⟩ (.int .u64 (p : Int))) base Q' rb { (setL D p (ins l (k + 1) n)) with S := (setL D p (ins l (k + 1) n)).S.set i { s1 with parent := p } } g cap ra' rcap' (L'.set i q)) := (hr.below ((Below.refl _ _).drew)).setPar HS1.out hq p
 have HQ : Hid (∀ b, Q' b -> Q b \/ w.heap.size <= b) := hQ'
 have HT : Hid (Turn (fun b => b = rb \/ b = g) w w7) := ht7
 generalize (setL D p (ins l (k + 1) n)).S.length = SL at *
 clear hr hq hcl e1 hQ' ht7
 go_wp2_with fail
 go_region_held3 (fun w' => w'.cell? ⟨rb, 0, none⟩ = some (.slice (some ⟨g, 0, none⟩) SL cap)) (go_keep) (first | (go_at_call 28; refine hat.mono ?_; rintro e w8 ⟨rfl, rfl⟩))
 go_end0
 refine ⟨rfl, ⟨Q', ra', rcap', _, by rw [HE.out]; exact HR.out, HQ.out⟩, ?_⟩
 exact (Turn.setCell (A := fun b => b = rb \/ b = g) HT.out (p := ⟨g, i * 8 + 6, none⟩) (.inr rfl) _).drew
end Go.Proofs.YtjkgjckkglfokaaGreat.Gr
