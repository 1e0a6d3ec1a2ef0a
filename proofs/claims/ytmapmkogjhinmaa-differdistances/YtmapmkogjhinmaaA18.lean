/- Distance: of two forests, by the program. -/
import Derived.Test.YtmapmkogjhinmaaA16
import Derived.Test.YtmapmkogjhinmaaA17
import Derived.Test.YtmapmkogjhinmaaA05
import Derived.Test.YtmapmkogjhinmaaA12
import Derived.Test.YtmapmkogjhinmaaA14
import Derived.Test.YtmapmkogjhinmaaA15
namespace Go.Proofs.Ytmapmkogjhinmaa
open Go.RowKit
set_option maxRecDepth 100000
set_option maxHeartbeats 4000000
set_option linter.unusedVariables false
set_option linter.unusedSimpArgs false
theorem attrs_at {w : World} {lo hi : Nat} {a : Option Addr} {ac : Nat} {l : List (ByteArray × ByteArray)} (h : w.ownsRow 0 99 2 (.slice a l.length ac) l.length (attrCells l)) (hR : ∀ b, (Value.slice a l.length ac).ownBlock = some b -> lo <= b /\ b < hi) : AttrsAt w lo hi a l := by
 obtain ⟨h1, h2, h3⟩ := row_cell h
 intro i p hp
 obtain ⟨c1, c2⟩ := attrCells_get l i p hp
 obtain ⟨g, rfl, g1, g2, g3⟩ := h3 _ _ c1
 obtain ⟨g', e, g4, g5, g6⟩ := h3 _ _ c2
 cases e
 obtain ⟨q1, q2⟩ := hR g rfl
 exact ⟨g, 0, rfl, q1, q2, by rw [Nat.zero_add]; exact g3, by rw [Nat.zero_add]; exact g6⟩
theorem ForS.at {w : World} {n : Nat} {lo hi : Nat} {base : Nat} {ka : Option Addr} {kc : Nat} {xs : List Value} {L : List (T n)} {R : Nat -> Prop} (hT : ∀ (S : Nat -> Prop) (u : Array Value) (k : T n), TreeS w n S u k -> (∀ b, S b -> lo <= b /\ b < hi) -> TreeAt w lo hi n u k)
  (ho : w.ownsRow base 36 5 (.slice ka L.length kc) L.length xs) (hf : ForS (TreeS w n) R xs L) (hb : ∀ b, (Value.slice ka L.length kc).ownBlock = some b -> lo <= b /\ b < hi) (hR : ∀ b, R b -> lo <= b /\ b < hi) : KidsAt w lo hi n ka L := by
 obtain ⟨h1, h2, h3⟩ := row_cell ho
 obtain ⟨f1, f2, Rk, f3, f4, f5⟩ := hf
 intro i k hk
 obtain ⟨u, u1, u2, u3⟩ := f3 i k hk
 have hi' := (List.getElem?_eq_some_iff.1 hk).1
 have hj : ∀ j, j < 5 -> ∃ g, ka = some ⟨g, 0, none⟩ /\ w.cell? ⟨g, i * 5 + j, none⟩ = u[j]? := fun j hj => by
  have hu := u2 j hj
  rw [Array.getElem?_eq_getElem (by omega)] at hu
  obtain ⟨g, e1, e2, e3, e4⟩ := h3 _ _ hu
  exact ⟨g, e1, by rw [e4, Array.getElem?_eq_getElem (by omega)]⟩
 obtain ⟨g, rfl, _⟩ := hj 0 (by omega)
 obtain ⟨q1, q2⟩ := hb g rfl
 refine ⟨g, 0, u, rfl, q1, q2, u1, fun j hj' => ?_, hT _ u k u3 (fun b hb' => hR b (f4 i b hi' hb'))⟩
 obtain ⟨g', e1, e4⟩ := hj j hj'
 cases e1
 rw [Nat.zero_add, e4]
theorem TreeS.at {w : World} {lo hi : Nat} : ∀ {n : Nat} {R : Nat -> Prop} {v : Array Value} {t : T n}, TreeS w n R v t -> (∀ b, R b -> lo <= b /\ b < hi) -> TreeAt w lo hi n v t
 | 0, _, _, _, h, _ => h.elim
 | n + 1, R, v, t, h, hR => by
  obtain ⟨a, ac, ka, kc, xs, Rf, h1, h2, h3, h4, h5, h6, h7, h8, h9⟩ := h
  refine ⟨a, ac, ka, kc, h1, by unfold maxA; omega, by unfold maxK; omega, (row_cell h4).1, (row_cell h5).1, attrs_at h4 (fun b hb => hR b (h8 b hb).1), ?_⟩
  exact ForS.at (fun S u k hS hSb => hS.at hSb) h5 h6 (fun b hb => hR b (h9 b hb).1) (fun b hb => hR b (h7 b hb))
theorem FoS.kids {w w' : World} {n : Nat} {L : List (T n)} {a : Option Addr} {cap : Nat} {xs : List Value} {R : Nat -> Prop} (h1 : w'.ownsRow w.heap.size 36 5 (.slice a L.length cap) L.length xs) (h2 : ForS (TreeS w' n) R xs L) (h3 : ∀ b, R b -> w.heap.size <= b /\ b < w'.heap.size /\ (Value.slice a L.length cap).ownBlock ≠ some b) : KidsAt w' w.heap.size w'.heap.size n a L :=
 ForS.at (fun S u k hS hSb => hS.at hSb) h1 h2 (fun b hb => own_block_lt h1 b hb) (fun b hb => ⟨(h3 b hb).1, (h3 b hb).2.1⟩)
theorem posL_mem {α : Type} {f : α -> Nat -> List (Kn × Nat)} {P : Kn × Nat -> Prop} : ∀ (L : List α) (o : Nat), (∀ k ∈ L, ∀ o, ∀ p ∈ f k o, P p) -> ∀ p ∈ posL f L o, P p
 | [], _, _, p, hp => by simp [posL] at hp
 | k :: r, o, h, p, hp => by
  rw [posL] at hp
  rcases List.mem_append.1 hp with hp | hp
  ·exact h k List.mem_cons_self o p hp
  ·exact posL_mem r _ (fun x hx => h x (List.mem_cons_of_mem _ hx)) p hp
theorem own_kind {α : Type} {t : Nd α} (h : ownE t = 0) : t.kind = 1 \/ t.kind = 2 := by
 unfold ownE at h
 split at h
 ·left; assumption
 ·split at h
  ·right; assumption
  ·cases h
theorem posT_kind : ∀ (n : Nat) (t : T n) (o : Nat), okT n t -> ∀ p ∈ posT true n t o, p.1.kind = 1 \/ p.1.kind = 2
 | 0, _, _, _, p, hp => by simp [posT] at hp
 | n + 1, t, o, h, p, hp => by
  have e2 : posT true (n + 1) t o = posL (posT true n) (kidsT (t : Nd (T n))) o ++ [(knT (t : Nd (T n)), o)] := rfl
  rw [e2] at hp
  rcases List.mem_append.1 hp with hp | hp
  ·exact posL_mem _ _ (fun k hk o => posT_kind n k o (h.2 k hk)) p hp
  ·simp at hp
   subst hp
   exact own_kind h.1
theorem outM_kind {n : Nat} {L : List (T n)} (hce : canE L = 0) : ∀ p ∈ posF false (outM L), p.1.kind = 1 \/ p.1.kind = 2 := by
 intro p hp
 obtain ⟨hc, hs⟩ := canE_ok hce
 obtain ⟨he, hq⟩ := (outM_eq hce).1
 obtain ⟨i, hi, hx⟩ := List.getElem_of_mem hp
 have hx' : (posF false (outM L))[i]? = some p := by rw [List.getElem?_eq_getElem hi, hx]
 have hy : (posF true L)[i]? = some ((posF true L)[i]'(by omega)) := List.getElem?_eq_getElem _
 have h1 := (hq i _ _ hx' hy).2.1
 have h2 := posL_mem (P := fun p => p.1.kind = 1 \/ p.1.kind = 2) L 0 (fun k hk o => by
  obtain ⟨j, hj, hkj⟩ := List.getElem_of_mem hk
  exact posT_kind n k o (chk_ok n k 1 0 (by omega) (by omega) (by omega) (hc j k (by rw [List.getElem?_eq_getElem hj, hkj]))).1) _ (List.mem_of_getElem? hy)
 rw [h1]
 exact h2
theorem outM_len {n : Nat} {L : List (T n)} : (outM L).length <= 4096 := by
 unfold outM
 rw [List.length_map]
 exact (roots_len (wf_doc L L.length)).1
def DocsP {n n2 : Nat} (w : World) (L : List (T n)) (L2 : List (T n2)) (e : Ending) (w' : World) : Prop :=
 Below w.heap.size w w' /\ ((canE L ≠ 0 /\ e = .returned (.tuple #[.pointer none, .pointer none, .int .i64 (canE L)])) \/ (canE L = 0 /\ canE L2 ≠ 0 /\ e = .returned (.tuple #[.pointer none, .pointer none, .int .i64 (canE L2)])) \/
  (canE L = 0 /\ canE L2 = 0 /\ ∃ db ro db2 ro2, e = .returned (.tuple #[.pointer (some ⟨db, 0, none⟩), .pointer (some ⟨db2, 0, none⟩), .int .i64 0]) /\ PDoc w' ro db (docD L L.length) /\ PDoc w' ro2 db2 (docD L2 L2.length)))
theorem documents_any (n n2 : Nat) (w : World) (lo : Nat) (a a2 : Option Addr) (L : List (T n)) (L2 : List (T n2)) (c c2 : Nat) (hk : KidsAt w lo w.heap.size n a L) (hk2 : KidsAt w lo w.heap.size n2 a2 L2) (hl : L.length <= maxK) (hl2 : L2.length <= maxK) :
  Calls Try.prog 7 #[.slice a L.length c, .slice a2 L2.length c2] w (DocsP w L L2) := by
 have hdc := document_any n w lo a L c hk hl
 have HK2 : Hid (KidsAt w lo w.heap.size n2 a2 L2) := hk2
 have HL2 : Hid (L2.length <= maxK) := hl2
 clear hk hk2 hl hl2
 generalize hPq : DocsP w L L2 = P
 have HPQ : Hid (P = DocsP w L L2) := hPq.symm
 clear hPq
 go_enter Try.func7, Try.ntmps7
 go_wp2_with fail
 refine hdc.mono ?_
 rintro e w1 ⟨hb1, ⟨hce, rfl⟩ | ⟨hce, db, ro, rfl, hpd, hro⟩⟩
 ·have HCE : Hid (canE L ≠ 0) := hce
  have HB1 : Hid (Below w.heap.size w w1) := hb1
  have HV : Hid (DocsP w L L2 (.returned (.tuple #[.pointer none, .pointer none, .int .i64 (canE L)])) w1) := ⟨hb1, .inl ⟨hce, rfl⟩⟩
  generalize canE L = z at *
  have hzb : (z == 0) = false := by simp [hce]
  clear hce hb1 hdc
  go_wp2
  go_ret3
  rw [HPQ.out]
  exact HV.out
 ·have HCE : Hid (canE L = 0) := hce
  have HB1 : Hid (Below w.heap.size w w1) := hb1
  have HPD : Hid (PDoc w1 ro db (docD L L.length)) := hpd
  have hdc2 := document_any n2 w1 lo a2 L2 c2 (HK2.out.after hb1) HL2.out
  clear hce hb1 hdc hpd hro
  go_wp2_with fail
  refine hdc2.mono ?_
  rintro e w2 ⟨hb2, ⟨hce, rfl⟩ | ⟨hce, db2, ro2, rfl, hpd2, hro2⟩⟩
  ·have HV : Hid (DocsP w L L2 (.returned (.tuple #[.pointer none, .pointer none, .int .i64 (canE L2)])) w2) := ⟨HB1.out.trans (hb2.mono HB1.out.size), .inr (.inl ⟨HCE.out, hce, rfl⟩)⟩
   generalize canE L2 = z at *
   have hzb : (z == 0) = false := by simp [hce]
   clear hce hb2 hdc2
   go_wp2
   go_ret3
   rw [HPQ.out]
   exact HV.out
  ·have hp1 : PDoc w2 ro db (docD L L.length) := HPD.out.turn (A := fun _ => False) ((Turn.refl _ _).then hb2 (Nat.le_refl _)) (fun _ _ h => h)
   have HV : Hid (DocsP w L L2 (.returned (.tuple #[.pointer (some ⟨db, 0, none⟩), .pointer (some ⟨db2, 0, none⟩), .int .i64 0])) w2) := ⟨HB1.out.trans (hb2.mono HB1.out.size), .inr (.inr ⟨HCE.out, hce, db, ro, db2, ro2, rfl, hp1, hpd2⟩)⟩
   clear hce hb2 hdc2 hpd2 hro2 hp1
   go_wp2
   go_ret3
   rw [HPQ.out]
   exact HV.out
def distE {n n2 : Nat} (L : List (T n)) (L2 : List (T n2)) : Int × Int :=
 if canE L ≠ 0 then (0, canE L) else if canE L2 ≠ 0 then (0, canE L2) else if 32 < (posF true L).length \/ 32 < (posF true L2).length then (0, 2) else ((Z (posF true L) (posF true L2) 0 (posF true L).length 0 (posF true L2).length : Nat), 0)
theorem pdist_any (n n2 : Nat) (w : World) (lo : Nat) (a a2 : Option Addr) (L : List (T n)) (L2 : List (T n2)) (c c2 : Nat) (hk : KidsAt w lo w.heap.size n a L) (hk2 : KidsAt w lo w.heap.size n2 a2 L2) (hl : L.length <= maxK) (hl2 : L2.length <= maxK) :
  Calls Try.prog 4 #[.slice a L.length c, .slice a2 L2.length c2] w fun e w' => e = .returned (.tuple #[.int .i64 (distE L L2).1, .int .i64 (distE L L2).2]) /\ Below w.heap.size w w' := by
 have hdc := documents_any n n2 w lo a a2 L L2 c c2 hk hk2 hl hl2
 obtain ⟨R, hR⟩ : ∃ R, R = distE L L2 := ⟨_, rfl⟩
 rw [<- hR]
 clear hk hk2 hl hl2
 go_enter Try.func4, Try.ntmps4
 go_wp2_with fail
 refine hdc.mono ?_
 rintro e w1 ⟨hb1, ⟨hce, rfl⟩ | ⟨hce, hce2, rfl⟩ | ⟨hce, hce2, db, ro, db2, ro2, rfl, hpd, hpd2⟩⟩
 ·have hRR : R = (0, canE L) := by rw [hR]; unfold distE; rw [if_pos hce]
  have HB1 : Hid (Below w.heap.size w w1) := hb1
  clear hR hb1 hdc
  generalize canE L = z at *
  have hzb : (z == 0) = false := by simp [hce]
  clear hce
  subst hRR
  go_wp2
  go_ret2
  exact ⟨rfl, HB1.out⟩
 ·have hRR : R = (0, canE L2) := by rw [hR]; unfold distE; rw [if_neg (by simp [hce]), if_pos hce2]
  have HB1 : Hid (Below w.heap.size w w1) := hb1
  clear hR hb1 hdc
  generalize canE L2 = z at *
  have hzb : (z == 0) = false := by simp [hce2]
  clear hce hce2
  subst hRR
  go_wp2
  go_ret2
  exact ⟨rfl, HB1.out⟩
 ·obtain ⟨q1, q2⟩ := outM_eq hce
  obtain ⟨q3, q4⟩ := outM_eq hce2
  have hkd := outM_kind hce
  have HB1 : Hid (Below w.heap.size w w1) := hb1
  have hn1 := plen_any w1 ro db _ hpd
  have hn2 := plen_any w1 ro2 db2 _ hpd2
  rw [q2] at hn1
  rw [q4] at hn2
  have hRR : R = if 32 < (posF true L).length \/ 32 < (posF true L2).length then ((0 : Int), (2 : Int)) else (((Z (posF true L) (posF true L2) 0 (posF true L).length 0 (posF true L2).length : Nat) : Int), 0) := by rw [hR]; unfold distE; rw [if_neg (by simp [hce]), if_neg (by simp [hce2])]
  have e1 : (posF false (outM L)).length = (posF true L).length := q1.1
  have e2 : (posF false (outM L2)).length = (posF true L2).length := q3.1
  have ez : Z (posF false (outM L)) (posF false (outM L2)) 0 (posF false (outM L)).length 0 (posF false (outM L2)).length = Z (posF true L) (posF true L2) 0 (posF true L).length 0 (posF true L2).length := by rw [q1.Z q3, e1, e2]
  have HF1 := pforest_s w1 _ db _ hpd.view (wf_doc L L.length)
  have HP2 : Hid (PDoc w1 ro2 db2 (docD L2 L2.length)) := hpd2
  have hl1 : (outM L).length <= 4096 := outM_len
  have hl2 : (outM L2).length <= 4096 := outM_len
  have HW2 : Hid (WF (docD L2 L2.length)) := wf_doc L2 L2.length
  have HO2 : Hid (outM L2 = (docD L2 L2.length).roots.map (subT (docD L2 L2.length) 63)) := rfl
  have hO1 : outM L = (docD L L.length).roots.map (subT (docD L L.length) 63) := rfl
  rw [<- hO1] at HF1
  generalize outM L = M at *
  generalize outM L2 = M2 at *
  generalize docD L2 L2.length = D2 at *
  generalize Z (posF true L) (posF true L2) 0 (posF true L).length 0 (posF true L2).length = zz at *
  generalize (posF true L).length = n1 at *
  generalize (posF true L2).length = n2 at *
  have HEZ : Hid (Z (posF false M) (posF false M2) 0 (posF false M).length 0 (posF false M2).length = zz) := ez
  have HE : Hid ((posF false M).length = n1 /\ (posF false M2).length = n2 /\ (∀ p ∈ posF false M, p.1.kind = 1 \/ p.1.kind = 2)) := ⟨e1, e2, hkd⟩
  have HL : Hid (M.length <= 4096 /\ M2.length <= 4096) := ⟨hl1, hl2⟩
  have HFH : Hid (Calls Try.prog 10 #[.pointer (some ⟨db, 0, none⟩)] w1 (FoS w1 64 M)) := HF1
  clear hR hb1 hdc hpd hpd2 q1 q2 q3 q4 e1 e2 ez hkd hl1 hl2 HF1 hO1 hce hce2
  go_wp2_with fail
  refine hn1.mono ?_
  rintro e w2 ⟨rfl, rfl⟩
  go_wp2_with fail
  refine hn2.mono ?_
  rintro e w3 ⟨rfl, rfl⟩
  by_cases hlt : n1 < n2
  all_goals
   by_cases hbig : 32 < n1 \/ 32 < n2
   ·rw [if_pos hbig] at hRR
    subst hRR
    have tb : (32 : Int) < (if n1 < n2 then (n2 : Int) else (n1 : Int)) := by split <;> omega
    first | rw [if_pos hlt] at tb | rw [if_neg hlt] at tb
    clear hn1 hn2
    go_wp2
    go_ret2
    exact ⟨rfl, HB1.out⟩
   ·rw [if_neg hbig] at hRR
    subst hRR
    have tb : ¬ (32 : Int) < (if n1 < n2 then (n2 : Int) else (n1 : Int)) := by split <;> omega
    first | rw [if_pos hlt] at tb | rw [if_neg hlt] at tb
    have hff := HFH.out
    clear hn1 hn2
    go_wp2_with fail
    refine hff.mono ?_
    rintro e w4 ⟨a4, c4, xs4, R4, rfl, h1, h2, h3, h4⟩
    have HK4 : Hid (KidsAt w4 w3.heap.size w4.heap.size 64 a4 M) := FoS.kids h1 h2 h3
    have HB4 : Hid (Below w3.heap.size w3 w4) := h4
    have hp4 := (HP2.out.turn (A := fun _ => False) ((Turn.refl _ _).then h4 (Nat.le_refl _)) (fun _ _ h => h)).view
    have HF2 := pforest_s w4 _ db2 _ hp4 HW2.out
    rw [<- HO2.out] at HF2
    clear h1 h2 h3 h4 hp4 HFH hff
    go_wp2_with fail
    refine HF2.mono ?_
    rintro e w5 ⟨a5, c5, xs5, R5, rfl, h1, h2, h3, h4⟩
    have hs4 := HB4.out.size
    have HB5 : Hid (Below w.heap.size w w5) := (HB1.out.trans (HB4.out.mono HB1.out.size)).trans (h4.mono (Nat.le_trans HB1.out.size hs4))
    have hdd := distance_any w5 w3.heap.size a4 a5 M M2 c4 c5 (HK4.out.after h4) (KidsAt.mono (FoS.kids h1 h2 h3) hs4 (Nat.le_refl _)) (by have := HL.out.1; unfold maxK; omega) (by have := HL.out.2; unfold maxK; omega) (by rw [HE.out.1]; omega) (by rw [HE.out.2.1]; omega) HE.out.2.2
    rw [HEZ.out] at hdd
    clear h1 h2 h3 h4 HF2 hs4
    go_wp2_with fail
    refine hdd.mono ?_
    rintro e w6 ⟨rfl, hb6⟩
    have HB6 : Hid (Below w.heap.size w w6) := HB5.out.trans (hb6.mono HB5.out.size)
    clear hdd hb6
    go_wp2
    go_ret2
    exact ⟨rfl, HB6.out⟩
def Siz4All (n : Nat) : Prop := ∀ (w : World) (v : Array Value) (t : T n) (lo hi : Nat), TreeAt w lo hi n v t -> hi <= w.heap.size -> ndT n t <= 4096 ->
 Calls Try.prog 20 #[.agg v] w fun e w' => e = .returned (.int .i64 (ndT n t : Int)) /\ Below w.heap.size w w'
theorem size4_any : ∀ (n : Nat), Siz4All n
 | 0 => fun _ _ _ _ _ h => h.elim
 | n + 1 => by
  intro w v t lo hi h hsz hnd
  have ih := size4_any n
  obtain ⟨a, ac, ka, kc, rfl, hal, hkl, hac, hkc, hat, hkt⟩ := id h
  unfold tv at h ⊢
  unfold maxK at hkl
  have HKT : Hid (KidsAt w lo hi n ka t.kids) := hkt
  have HND : Hid (ndT (n + 1) t = ((kidsT t).map (ndT n)).sum + 1) := rfl
  have HBN : Hid (Below w.heap.size w (w.alloc (.cells #[.int .i64 t.kind, .string t.name, .slice a t.attrs.length ac, .string t.text, .slice ka t.kids.length kc] 36))) := below_new' w _
  have HBX : Hid (IsCells (w.alloc (.cells #[.int .i64 t.kind, .string t.name, .slice a t.attrs.length ac, .string t.text, .slice ka t.kids.length kc] 36)) w.heap.size #[.int .i64 t.kind, .string t.name, .slice a t.attrs.length ac, .string t.text, .slice ka t.kids.length kc]) := isCells_new w _ 36
  have hN := HND.out
  generalize ndT (n + 1) t = NN at *
  by_cases hk1 : t.kind = 1
  ·have hkk : kidsT t = t.kids := by simp [kidsT, hk1]
   rw [hkk] at HND hN
   clear hal hac hkc hat hkt h hkk
   rw [hk1] at HBX HBN ⊢
   clear hk1
   generalize t.attrs.length = AL at *
   generalize t.name = NM at *
   generalize t.text = TX at *
   generalize t.kids = L at *
   go_enter Try.func20, Try.ntmps20
   go_wp2
   go_loopw [3, 4] (fun q iv wr => ∃ (j x : Nat), j <= L.length /\ iv = .int .i64 (j : Int) /\ q = .int .i64 ((x : Int) + 1) /\ x <= 4096 /\ Hid (((L.take j).map (ndT n)).sum = x) /\ Hid (Below w.heap.size w wr) /\ Hid (IsCells wr w.heap.size #[.int .i64 1, .string NM, .slice a AL ac, .string TX, .slice ka L.length kc])) (fun _ iv _ => L.length - (intOf iv).toNat)
   case atStart => exact ⟨0, 0, by omega, rfl, rfl, by omega, rfl, HBN, HBX⟩
   case round =>
    obtain ⟨j, x, hj, rfl, rfl, hx, hsx, hbw, hbx⟩ := hrel
    have hbs := hbw.out.size
    have hc := hbx.out.cell
    have hbl := hbx.out.lt
    clear HBN HBX
    by_cases hlt : j < L.length
    ·obtain ⟨k, hk⟩ : ∃ k, L[j]? = some k := ⟨_, List.getElem?_eq_getElem hlt⟩
     have hkt' := HKT.out.below hbw.out hsz
     obtain ⟨b, o, kk, nm, a', al', ac', tx, ka2, kl2, kc2, rfl, hb1, hb2, c0, c1, c2, c3, c4, htr⟩ := hkt'.get hk
     have hbr : b < wr.heap.size := by omega
     have hnk : x + ndT n k <= 4096 := by
      have h1 := sum_part (L.map (ndT n)) (j + 1)
      rw [<- List.map_take, take_more hk, List.map_append, List.sum_append, hsx.out] at h1
      simp at h1
      omega
     have hih := ih wr _ k lo hi htr (by omega) (by omega)
     have HSX : Hid (((L.take (j + 1)).map (ndT n)).sum = x + ndT n k) := by
      show _ = _
      rw [take_more hk, List.map_append, List.sum_append, hsx.out]
      simp
     generalize ndT n k = p at *
     have tl : (j : Int) < (L.length : Int) := by omega
     have t0 : (0 : Int) <= (j : Int) := by omega
     clear hkt' hk htr hsx
     go_wp2_with fail
     refine hih.mono ?_
     rintro e w2 ⟨rfl, hb2⟩
     have HB2 : Hid (Below w.heap.size w w2) := hbw.out.trans (hb2.mono hbs)
     have HX2 : Hid (IsCells w2 w.heap.size #[.int .i64 1, .string NM, .slice a AL ac, .string TX, .slice _ L.length kc]) := hbx.out.of_block (hb2.block _ hbl)
     clear hb2 hih c0 c1 c2 c3 c4 hbx hc
     go_wp2
     refine ⟨⟨j + 1, x + p, by omega, by go_num, congrArg _ (by omega), by omega, HSX, HB2, HX2⟩, ?_⟩
     simp [intOf]
     omega
    ·have hje : j = L.length := by omega
     subst hje
     have hxe : (NN : Int) = (x : Int) + 1 := by
      have := hsx.out
      rw [List.take_length] at this
      omega
     go_wp2
     go_ret
     exact ⟨congrArg (fun z => Ending.returned (.int .i64 z)) hxe.symm, hbw.out⟩
  ·have hkk : kidsT t = [] := by simp [kidsT, hk1]
   rw [hkk] at HND hN
   have hN1 : NN = 1 := by simpa using hN
   have hb : (t.kind == 1) = false := by simp [hk1]
   subst hN1
   clear hal hac hkc hat hkt h hkk hN HND hk1 HKT
   generalize t.attrs.length = AL at *
   generalize t.name = NM at *
   generalize t.text = TX at *
   generalize t.kids.length = KL at *
   generalize t.kind = K at *
   have hc := HBX.out.cell
   go_enter Try.func20, Try.ntmps20
   go_wp2
   go_loopw [3, 4] (fun q iv wr => iv = .int .i64 0 /\ q = .int .i64 1 /\ Hid (Below w.heap.size w wr) /\ Hid (IsCells wr w.heap.size #[.int .i64 K, .string NM, .slice a AL ac, .string TX, .slice ka KL kc])) (fun _ _ _ => 0)
   case atStart => exact ⟨rfl, rfl, HBN, HBX⟩
   case round =>
    obtain ⟨rfl, rfl, hbw, hbx⟩ := hrel
    have hc := hbx.out.cell
    have hbl := hbx.out.lt
    clear HBN HBX
    by_cases hlt : 0 < KL
    ·have tl : (0 : Int) < (KL : Int) := by omega
     go_wp2
     go_ret
     exact ⟨rfl, hbw.out⟩
    ·have tl : ¬ (0 : Int) < (KL : Int) := by omega
     go_wp2
     go_ret
     exact ⟨rfl, hbw.out⟩
theorem can_any (n : Nat) (w : World) (lo : Nat) (a : Option Addr) (L : List (T n)) (c : Nat) (hk : KidsAt w lo w.heap.size n a L) (hl : L.length <= maxK) :
  Calls Try.prog 11 #[.slice a L.length c] w fun e w' => e = .returned (.int .i64 (canE L)) /\ Below w.heap.size w w' := by
 have HK : Hid (KidsAt w lo w.heap.size n a L) := hk
 unfold maxK at hl
 clear hk
 generalize hZ : canE L = Z
 have HZ : Hid (canE L = Z) := hZ
 clear hZ
 go_enter Try.func11, Try.ntmps11
 go_wp2
 go_loopw [3, 4] (fun q iv wr => ∃ (j x : Nat), j <= L.length /\ iv = .int .i64 (j : Int) /\ q = .int .i64 (x : Int) /\ x <= 4097 /\ Hid (x = if 4096 < ((L.take j).map (ndT n)).sum then 4097 else ((L.take j).map (ndT n)).sum) /\ Hid (∀ (i : Nat) (t : T n), i < j -> L[i]? = some t -> (chk n t 1 0).2 = 0) /\ Hid (Below w.heap.size w wr)) (fun _ iv _ => L.length - (intOf iv).toNat)
 case atStart => exact ⟨0, 0, by omega, rfl, rfl, by omega, by show _ = _; simp, fun i t h => by omega, Below.refl _ _⟩
 case round =>
  obtain ⟨j, x, hj, rfl, rfl, hx, hsx, hck, hbw⟩ := hrel
  have hbs := hbw.out.size
  by_cases hlt : j < L.length
  ·obtain ⟨k, hk⟩ : ∃ k, L[j]? = some k := ⟨_, List.getElem?_eq_getElem hlt⟩
   have hkt' := HK.out.after hbw.out
   obtain ⟨b, o, kk, nm, a', al', ac', tx, ka2, kl2, kc2, rfl, hb1, hb2, c0, c1, c2, c3, c4, htr⟩ := hkt'.get hk
   have hcal := rCheck_any n wr _ k lo wr.heap.size htr (Nat.le_refl _)
   have HTR : Hid (TreeAt wr lo wr.heap.size n #[.int .i64 kk, .string nm, .slice a' al' ac', .string tx, .slice ka2 kl2 kc2] k) := htr
   have tl : (j : Int) < (L.length : Int) := by omega
   have t0 : (0 : Int) <= (j : Int) := by omega
   have HKK : Hid (L[j]? = some k) := hk
   clear hkt' htr hk
   by_cases hz : (chk n k 1 0).2 = 0
   ·rw [hz] at hcal
    obtain ⟨-, h2, h3⟩ := chk_ok n k 1 0 (by omega) (by omega) (by omega) hz
    have hnd : ndT n k <= 4096 := by
     have := chk_le n k 1 0 (by omega)
     omega
    have hcal2 := fun W (hb : Below wr.heap.size wr W) => size4_any n W _ k lo wr.heap.size (HTR.out.below hb (Nat.le_refl _)) hb.size hnd
    have HC2 : Hid (∀ W, Below wr.heap.size wr W -> Calls Try.prog 20 #[.agg #[.int .i64 kk, .string nm, .slice a' al' ac', .string tx, .slice ka2 kl2 kc2]] W fun e w' => e = .returned (.int .i64 (ndT n k : Int)) /\ Below W.heap.size W w') := hcal2
    have HCK : Hid (∀ (i : Nat) (t : T n), i < j + 1 -> L[i]? = some t -> (chk n t 1 0).2 = 0) := fun i t hi ht => by
     rcases Nat.lt_or_ge i j with h | h
     ·exact hck.out i t h ht
     ·have : i = j := by omega
      subst this
      rw [HKK.out] at ht
      cases ht
      exact hz
    have HSX : Hid (((L.take (j + 1)).map (ndT n)).sum = ((L.take j).map (ndT n)).sum + ndT n k) := sum_more HKK.out
    generalize ndT n k = p at *
    clear hz h2 h3 hcal2 HTR hck
    go_wp2_with fail
    refine hcal.mono ?_
    rintro e w2 ⟨rfl, hb2'⟩
    have HB2 : Hid (Below w.heap.size w w2) := hbw.out.trans (hb2'.mono hbs)
    have hcal3 := HC2.out w2 hb2'
    obtain ⟨hcb, hfb⟩ := bcell hb2'
    have hs2 := hb2'.size
    clear hcal
    go_wp2_with fail
    refine hcal3.mono ?_
    rintro e w3 ⟨rfl, hb3⟩
    have HB3 : Hid (Below w.heap.size w w3) := HB2.out.trans (hb3.mono (by omega))
    clear hcal3 hcb hfb hb2' hb3 c0 c1 c2 c3 c4
    by_cases hgt : 4096 < x + p
    ·have tg : (4096 : Int) < (x : Int) + (p : Int) := by omega
     have HX : Hid (4097 = if 4096 < ((L.take (j + 1)).map (ndT n)).sum then 4097 else ((L.take (j + 1)).map (ndT n)).sum) := by
      show _ = _
      have := hsx.out
      rw [HSX.out]
      split at this
      ·rw [if_pos (by omega)]
      ·rw [if_pos (by omega)]
     go_wp2
     refine ⟨⟨j + 1, 4097, by omega, by go_num, rfl, by omega, HX, HCK, HB3⟩, ?_⟩
     simp [intOf]; omega
    ·have tg : ¬ (4096 : Int) < (x : Int) + (p : Int) := by omega
     have HX : Hid (x + p = if 4096 < ((L.take (j + 1)).map (ndT n)).sum then 4097 else ((L.take (j + 1)).map (ndT n)).sum) := by
      show _ = _
      have := hsx.out
      rw [HSX.out]
      split at this
      ·omega
      ·rw [if_neg (by omega)]; omega
     go_wp2
     refine ⟨⟨j + 1, x + p, by omega, by go_num, congrArg _ (by omega), by omega, HX, HCK, HB3⟩, ?_⟩
     simp [intOf]; omega
   ·have hce := canE_at hck.out HKK.out hz
    have hZe : (chk n k 1 0).2 = Z := hce.symm.trans HZ.out
    generalize (chk n k 1 0).2 = z at *
    have hzb : (z == 0) = false := by simp [hz]
    clear HTR hck HKK hce
    subst hZe
    go_wp2_with fail
    refine hcal.mono ?_
    rintro e w2 ⟨rfl, hb2'⟩
    have HB2 : Hid (Below w.heap.size w w2) := hbw.out.trans (hb2'.mono hbs)
    clear hcal hb2' c0 c1 c2 c3 c4
    go_wp2
    go_ret
    exact ⟨rfl, HB2.out⟩
  ·have hje : j = L.length := by omega
   subst hje
   have hce := canE_all (L := L) (fun i t ht => hck.out i t (List.getElem?_eq_some_iff.1 ht).1 ht)
   have hsx' := hsx.out
   rw [List.take_length] at hsx'
   rw [HZ.out] at hce
   by_cases hgt : 4096 < (L.map (ndT n)).sum
   ·rw [if_pos hgt] at hsx' hce
    subst hsx'
    clear hlt hgt hsx hck HZ
    subst hce
    go_wp2
    go_ret
    exact ⟨rfl, hbw.out⟩
   ·rw [if_neg hgt] at hsx' hce
    have tg : ¬ (4096 : Int) < (x : Int) := by omega
    clear hlt hsx hck hgt hsx' HZ
    subst hce
    go_wp2
    go_ret
    exact ⟨rfl, hbw.out⟩
attribute [local go_sem] TB.cell TB.fz
theorem RowsAt.postOf {w : World} {lo hi base fb o mb : Nat} {na : Option Addr} {nc : Nat} {xs : List Value} {fa : Option Addr} {fc : Nat} {P : List (Kn × Nat)} (h : RowsAt w lo hi base na nc xs P fa fc P) (hn : w.cell? ⟨fb, o, none⟩ = some (.slice na P.length nc)) (hf : w.cell? ⟨fb, o + 1, none⟩ = some (.slice fa P.length fc))
  (hne : ∀ b, ((Value.slice na P.length nc).ownBlock = some b \/ (Value.slice fa P.length fc).ownBlock = some b) -> b ≠ mb) {i : Nat} {x : Kn × Nat} (hx : P[i]? = some x) : PostOf w lo hi fb o mb P.length i x := by
 obtain ⟨-, -, r3⟩ := row_cell h.own
 obtain ⟨-, -, f3⟩ := row_cell h.ownf
 obtain ⟨aa, ac, ka, kl, kc, g1, g2, g3⟩ := h.post.2 i x hx
 have hg : ∀ j u, j < 5 -> (tv x.1.kind x.1.name aa x.1.attrs.length ac x.1.text ka kl kc)[j]? = some u -> ∃ g, na = some ⟨g, 0, none⟩ /\ g < w.heap.size /\ w.cell? ⟨g, i * 5 + j, none⟩ = some u := fun j u hj hu => by
  rw [<- g1 j hj] at hu
  obtain ⟨g, q1, _, q2, q3⟩ := r3 _ _ hu
  exact ⟨g, q1, q2, q3⟩
 obtain ⟨g, rfl, hgl, c0⟩ := hg 0 _ (by omega) rfl
 obtain ⟨_, q, -, c1⟩ := hg 1 _ (by omega) rfl; cases q
 obtain ⟨_, q, -, c2⟩ := hg 2 _ (by omega) rfl; cases q
 obtain ⟨_, q, -, c3⟩ := hg 3 _ (by omega) rfl; cases q
 obtain ⟨_, q, -, c4⟩ := hg 4 _ (by omega) rfl; cases q
 have hfv : (fvals P)[i]? = some (.int .i64 (x.2 : Int)) := by unfold fvals; rw [List.getElem?_map, hx]; rfl
 obtain ⟨gf, rfl, _, hfl, cf⟩ := f3 _ _ hfv
 exact ⟨g, nc, gf, fc, aa, ac, ka, kl, kc, hn, hf, hgl, hne g (.inl rfl), hfl, hne gf (.inr rfl), cf, c0, c1, c2, c3, c4, g2, g3⟩
theorem rows_nil (w : World) (lo hi base : Nat) : RowsAt w lo hi base none 0 [] [] none 0 [] :=
 ⟨own_nil _ _ _ _, ⟨rfl, fun i p h => by simp at h⟩, own_nil _ _ _ _, fun b h => by cases h⟩
structure Fil (W1 wr : World) (mb j : Nat) : Prop where
 turn : Turn (fun b => b = mb) W1 wr
 cells : ∃ cs : Array Value, IsCells wr mb cs /\ cs.size = 1185921 /\ ∀ k, k < j -> cs[k]? = some (.int .i64 (-1))
theorem Fil.step {W1 wr : World} {mb j : Nat} (h : Fil W1 wr mb j) (hj : j < 1185921) : Fil W1 (wr.setCell ⟨mb, j, none⟩ (.int .i64 (-1))) mb (j + 1) := by
 obtain ⟨cs, h1, h2, h3⟩ := h.cells
 refine ⟨h.turn.setCell (A := fun b => b = mb) (p := ⟨mb, j, none⟩) rfl _, _, h1.set j _, by simpa using h2, fun k hk => ?_⟩
 by_cases e : k = j
 ·subst e
  simp [h2, hj]
 ·rw [Array.getElem?_setIfInBounds_ne (by omega)]
  exact h3 k (by omega)
theorem rdist_any (n n2 : Nat) (w : World) (lo : Nat) (a a2 : Option Addr) (L : List (T n)) (L2 : List (T n2)) (c c2 : Nat) (hk : KidsAt w lo w.heap.size n a L) (hk2 : KidsAt w lo w.heap.size n2 a2 L2) (hl : L.length <= maxK) (hl2 : L2.length <= maxK) :
  Calls Try.prog 6 #[.slice a L.length c, .slice a2 L2.length c2] w fun e w' => e = .returned (.tuple #[.int .i64 (distE L L2).1, .int .i64 (distE L L2).2]) /\ Below w.heap.size w w' := by
 have hc1 := can_any n w lo a L c hk hl
 obtain ⟨R, hR⟩ : ∃ R, R = distE L L2 := ⟨_, rfl⟩
 have HK : Hid (KidsAt w lo w.heap.size n a L) := hk
 have HK2 : Hid (KidsAt w lo w.heap.size n2 a2 L2) := hk2
 have HL : Hid (L.length <= maxK /\ L2.length <= maxK) := ⟨hl, hl2⟩
 have HRD : Hid (R = distE L L2) := hR
 rw [<- hR]
 clear hk hk2 hl hl2 hR
 go_enter Try.func6, Try.ntmps6
 go_wp2_with fail
 refine hc1.mono ?_
 rintro e w1 ⟨rfl, hb1⟩
 have HB1 : Hid (Below w.heap.size w w1) := hb1
 by_cases hce : canE L ≠ 0
 ·have hRR : R = (0, canE L) := by rw [HRD.out]; unfold distE; rw [if_pos hce]
  clear hc1 hb1
  generalize canE L = z at *
  have hzb : (z == 0) = false := by simp [hce]
  clear hce
  subst hRR
  go_wp2
  go_ret2
  exact ⟨rfl, HB1.out⟩
 ·have hce1 : canE L = 0 := by omega
  rw [hce1]
  have hc2 := can_any n2 w1 lo a2 L2 c2 (HK2.out.after hb1) HL.out.2
  clear hc1 hb1 hce
  go_wp2_with fail
  refine hc2.mono ?_
  rintro e w2 ⟨rfl, hb2⟩
  have HB2 : Hid (Below w.heap.size w w2) := HB1.out.trans (hb2.mono HB1.out.size)
  by_cases hce : canE L2 ≠ 0
  ·have hRR : R = (0, canE L2) := by rw [HRD.out]; unfold distE; rw [if_neg (by simp [hce1]), if_pos hce]
   clear hc2 hb2 hce1
   generalize canE L2 = z at *
   have hzb : (z == 0) = false := by simp [hce]
   clear hce
   subst hRR
   go_wp2
   go_ret2
   exact ⟨rfl, HB2.out⟩
  ·have hce2 : canE L2 = 0 := by omega
   rw [hce2]
   have hsA : (posF true L).length <= 4096 := by rw [posF_len]; exact (canE_ok hce1).2
   have hsB : (posF true L2).length <= 4096 := by rw [posF_len]; exact (canE_ok hce2).2
   have hRR : R = if 32 < (posF true L).length \/ 32 < (posF true L2).length then ((0 : Int), (2 : Int)) else (((Z (posF true L) (posF true L2) 0 (posF true L).length 0 (posF true L2).length : Nat) : Int), 0) := by rw [HRD.out]; unfold distE; rw [if_neg (by simp [hce1]), if_neg (by simp [hce2])]
   have hs2 := HB2.out.size
   have hcA' : Calls Try.prog 12 #[.slice a L.length c, .agg #[.slice none 0 0, .slice none 0 0]] w2 (PosP w2 lo w.heap.size w2.heap.size (.slice none 0 0) (.slice none 0 0) (posF true L)) :=
    posted_any n w2 lo w.heap.size w2.heap.size a L c none 0 [] none 0 [] (HK.out.below HB2.out (Nat.le_refl _)) hs2 (Nat.le_refl _) HL.out.1 (rows_nil _ _ _ _) (by show 0 + (posF true L).length <= 4096; omega)
   have hKB : ∀ W, Below w2.heap.size w2 W -> Calls Try.prog 12 #[.slice a2 L2.length c2, .agg #[.slice none 0 0, .slice none 0 0]] W (PosP W lo w.heap.size W.heap.size (.slice none 0 0) (.slice none 0 0) (posF true L2)) := fun W hW =>
    posted_any n2 W lo w.heap.size W.heap.size a2 L2 c2 none 0 [] none 0 [] (HK2.out.below (HB2.out.trans (hW.mono hs2)) (Nat.le_refl _)) (Nat.le_trans hs2 hW.size) (Nat.le_refl _) HL.out.2 (rows_nil _ _ _ _) (by show 0 + (posF true L2).length <= 4096; omega)
   have HKB : Hid (∀ W, Below w2.heap.size w2 W -> Calls Try.prog 12 #[.slice a2 L2.length c2, .agg #[.slice none 0 0, .slice none 0 0]] W (PosP W lo w.heap.size W.heap.size (.slice none 0 0) (.slice none 0 0) (posF true L2))) := hKB
   have HWP : Hid (WP (posF true L) /\ WP (posF true L2)) := ⟨posF_wp true L, posF_wp true L2⟩
   generalize posF true L = A at *
   generalize posF true L2 = B at *
   clear hc2 hb2 hce hce1 hce2 hKB
   go_wp2_with fail
   refine hcA'.mono ?_
   rintro e w3 ⟨na, nc, xs, fa, fc, rfl, hr3, ht3, hbk3⟩
   have hb3 : Below w2.heap.size w2 w3 := ht3.below (Nat.le_refl _) (fun k hk => by rcases hk with h | h <;> cases h)
   have hcB := HKB.out w3 hb3
   have HR3 : Hid (RowsAt w3 lo w.heap.size w2.heap.size na nc xs A fa fc A) := hr3
   have HB3 : Hid (Below w2.heap.size w2 w3) := hb3
   clear hcA' hr3 ht3 hbk3 hb3 HKB
   go_wp2_with fail
   refine hcB.mono ?_
   rintro e w4 ⟨na', nc', xs', fa', fc', rfl, hr4, ht4, hbk4⟩
   have hs3 := HB3.out.size
   have HR4 : Hid (RowsAt w4 lo w.heap.size w3.heap.size na' nc' xs' B fa' fc' B) := hr4
   have HB4 : Hid (Below w3.heap.size w3 w4) := ht4.below (Nat.le_refl _) (fun k hk => by rcases hk with h | h <;> cases h)
   have HRA4 : Hid (RowsAt w4 lo w.heap.size w2.heap.size na nc xs A fa fc A) := HR3.out.turn (A := fun _ => False) ((Turn.refl _ _).then HB4.out (Nat.le_refl _)) hs2 hs3 (fun _ h => h.elim)
   clear hcB hr4 ht4 hbk4 HR3
   have hs4 := HB4.out.size
   obtain ⟨w5, hw5⟩ : ∃ w5, w5 = w4.alloc (.cells #[.slice na A.length nc, .slice fa A.length fc, .slice na' B.length nc', .slice fa' B.length fc', .slice none 0 0] 44) := ⟨_, rfl⟩
   have hb5 : Below w4.heap.size w4 w5 := by rw [hw5]; exact below_new' w4 _
   have hx5 : IsCells w5 w4.heap.size #[.slice na A.length nc, .slice fa A.length fc, .slice na' B.length nc', .slice fa' B.length fc', .slice none 0 0] := by rw [hw5]; exact isCells_new w4 _ 44
   have HB5 : Hid (Below w4.heap.size w4 w5) := hb5
   have HX5 : Hid (IsCells w5 w4.heap.size #[.slice na A.length nc, .slice fa A.length fc, .slice na' B.length nc', .slice fa' B.length fc', .slice none 0 0]) := hx5
   have HW5 : Hid (w5 = w4.alloc (.cells #[.slice na A.length nc, .slice fa A.length fc, .slice na' B.length nc', .slice fa' B.length fc', .slice none 0 0] 44)) := hw5
   have k0 : w5.cell? ⟨w4.heap.size, 0, none⟩ = some (.slice na A.length nc) := hx5.cell 0
   have k2 : w5.cell? ⟨w4.heap.size, 2, none⟩ = some (.slice na' B.length nc') := hx5.cell 2
   have k4 : w5.cell? ⟨w4.heap.size, 4, none⟩ = some (.slice none 0 0) := hx5.cell 4
   have kf : w5.frozen? ⟨w4.heap.size, 4, none⟩ = false := hx5.frozen 4
   have HBW : Hid (Below w.heap.size w w5) := (((HB2.out.trans (HB3.out.mono hs2)).trans (HB4.out.mono (by omega)))).trans (hb5.mono (by omega))
   clear hw5 hb5 hx5
   go_upto_region 7 with fail
   rw [<- HW5.out]
   clear HW5
   by_cases hA32 : 32 < A.length
   ·have hRR' : R = (0, 2) := by rw [hRR, if_pos (.inl hA32)]
    subst hRR'
    have tA : (32 : Int) < (A.length : Int) := by omega
    have tA2 : decide ((32 : Int) < (A.length : Int)) = true := by simp; omega
    go_wp2
    go_ret2
    exact ⟨rfl, HBW.out⟩
   ·by_cases hB32 : 32 < B.length
    ·have hRR' : R = (0, 2) := by rw [hRR, if_pos (.inr hB32)]
     subst hRR'
     have tA : ¬ (32 : Int) < (A.length : Int) := by omega
     have tB : (32 : Int) < (B.length : Int) := by omega
     go_wp2
     go_ret2
     exact ⟨rfl, HBW.out⟩
    ·have tA : ¬ (32 : Int) < (A.length : Int) := by omega
     have tB : ¬ (32 : Int) < (B.length : Int) := by omega
     rw [if_neg (by omega)] at hRR
     have HA32 : Hid (A.length <= 32 /\ B.length <= 32) := ⟨by omega, by omega⟩
     go_upto_region 9 with fail
     obtain ⟨N, hN⟩ : ∃ N : Nat, N = 1185921 := ⟨_, rfl⟩
     have HN : Hid (N = 1185921) := hN
     have tN : (N : Int) <= 1185921 := by omega
     obtain ⟨zz, hzz⟩ : ∃ zz, zz = Z A B 0 A.length 0 B.length := ⟨_, rfl⟩
     have HZZ : Hid (zz = Z A B 0 A.length 0 B.length) := hzz
     have HRZ : Hid (R = ((zz : Int), (0 : Int))) := by rw [hzz]; exact hRR
     clear hRR
     obtain ⟨mb, hmb⟩ : ∃ mb, mb = w5.heap.size := ⟨_, rfl⟩
     have hs5 := HB5.out.size
     have hfl5 := HX5.out.lt
     obtain ⟨W6, hmk, hI6, hB6⟩ : ∃ W6, (Instr.makeSlice 39 (.int .i64 1185921) (.int .i64 1185921)).run Try.prog w5 = .ok (.slice (some ⟨mb, 0, none⟩) N N) W6 /\ Hid (∃ cs : Array Value, IsCells W6 mb cs /\ cs.size = 1185921) /\ Hid (Below w5.heap.size w5 W6) := by
      obtain ⟨i, hi0, hz0, hz1, hz2⟩ := info3.parts
      obtain ⟨w', hr, h2, h3⟩ := run_make_full (P := Try.prog) w5 w5.heap.size 39 3 i _ 1 Try.underlying39 hi0 hz0 hz1 .i64 .i64 N (by rw [hz2]; omega) (by unfold maxLen; omega) (Nat.le_refl _)
      rw [show ((N : Nat) : Int) = 1185921 from by omega] at hr
      refine ⟨w', by rw [hmb]; exact hr, ?_, ⟨h3.os, h3.tape, h3.output, h3.size, fun k hk => h3.block k hk (by simp)⟩⟩
      rcases h2.2 with ⟨e1, e2⟩ | ⟨g, cap', cur, e1, hb, hh, q1, q2, q3, q4⟩
      ·cases e1
      ·simp only [Value.slice.injEq, Option.some.injEq, Addr.mk.injEq, and_true, true_and] at e1
       obtain ⟨rfl, rfl⟩ := e1
       exact ⟨cur, by rw [hmb]; exact ⟨3, hh⟩, by rw [q3]; omega⟩
     have HMB : Hid (mb = w5.heap.size) := hmb
     have hX6 : IsCells W6 w4.heap.size #[.slice na A.length nc, .slice fa A.length fc, .slice na' B.length nc', .slice fa' B.length fc', .slice none 0 0] := HX5.out.of_block (hB6.out.block _ hfl5)
     have j4 : W6.cell? ⟨w4.heap.size, 4, none⟩ = some (.slice none 0 0) := hX6.cell 4
     have jf : W6.frozen? ⟨w4.heap.size, 4, none⟩ = false := hX6.frozen 4
     obtain ⟨W7, hW7⟩ : ∃ W7, W7 = W6.setCell ⟨w4.heap.size, 4, none⟩ (.slice (some ⟨mb, 0, none⟩) N N) := ⟨_, rfl⟩
     have hX7 : IsCells W7 w4.heap.size #[.slice na A.length nc, .slice fa A.length fc, .slice na' B.length nc', .slice fa' B.length fc', .slice (some ⟨mb, 0, none⟩) N N] := by rw [hW7]; exact hX6.set 4 _
     have ht7 : Turn (fun b => b = w4.heap.size) W6 W7 := by rw [hW7]; exact (Turn.refl _ _).setCell (A := fun b => b = w4.heap.size) (p := ⟨w4.heap.size, 4, none⟩) rfl _
     have hs6 := hB6.out.size
     have hs7 := ht7.size
     have HX7 : Hid (IsCells W7 w4.heap.size #[.slice na A.length nc, .slice fa A.length fc, .slice na' B.length nc', .slice fa' B.length fc', .slice (some ⟨mb, 0, none⟩) N N]) := hX7
     have HT7 : Hid (Turn (fun b => w4.heap.size <= b) w4 W7) := (((Turn.refl _ _).then HB5.out (Nat.le_refl _)).then hB6.out hs5).trans (ht7.mono (fun k _ hk => by omega))
     have HB7 : Hid (Below w.heap.size w W7) := (HBW.out.trans (hB6.out.mono HBW.out.size)).trans (ht7.below (by have := HBW.out.size; omega) (fun k hk => by omega))
     have HI7 : Hid (Fil W7 W7 mb 0) := by
      obtain ⟨cs, g1, g2⟩ := hI6.out
      exact ⟨Turn.refl _ _, cs, g1.of_block (ht7.block _ g1.lt (by omega)), g2, fun k hk => by omega⟩
     have HS7 : Hid (w4.heap.size + 2 <= W7.heap.size /\ mb < W7.heap.size /\ w4.heap.size < mb) := by
      obtain ⟨cs, g1, g2⟩ := hI6.out
      have := g1.lt
      exact ⟨by omega, by omega, by omega⟩
     have HW7 : Hid (W7 = W6.setCell ⟨w4.heap.size, 4, none⟩ (.slice (some ⟨mb, 0, none⟩) N N)) := hW7
     clear hN hzz hmb hB6 hI6 hX6 hW7 hX7 ht7 hs6 hs7 hs5 k0 k2 k4 kf hfl5
     go_upto_region 10 with fail
     rw [<- HW7.out]
     clear HW7 hmk j4 jf
     go_wp2
     go_loopw [8] (fun iv wr => ∃ j : Nat, j <= N /\ iv = .int .i64 (j : Int) /\ Hid (Fil W7 wr mb j)) (fun iv _ => N - (intOf iv).toNat)
     case atStart => exact ⟨0, by omega, rfl, HI7⟩
     case round =>
      obtain ⟨j, hj, rfl, hst⟩ := hrel
      clear HI7
      have hne : w4.heap.size ≠ mb := by have := HS7.out.2.2; omega
      have hxr : IsCells wr w4.heap.size #[.slice na A.length nc, .slice fa A.length fc, .slice na' B.length nc', .slice fa' B.length fc', .slice (some ⟨mb, 0, none⟩) N N] := HX7.out.of_block (hst.out.turn.block _ HX7.out.lt hne)
      have m4 : wr.cell? ⟨w4.heap.size, 4, none⟩ = some (.slice (some ⟨mb, 0, none⟩) N N) := hxr.cell 4
      by_cases hlt : j < N
      ·have tj : (j : Int) < (N : Int) := by omega
       have tj0 : (0 : Int) <= (j : Int) := by omega
       obtain ⟨cs, g1, g2, g3⟩ := hst.out.cells
       have hjc := HN.out
       obtain ⟨u0, hu0⟩ : ∃ u, cs[j]? = some u := ⟨_, Array.getElem?_eq_getElem (by omega)⟩
       have n0 : wr.cell? ⟨mb, j, none⟩ = some u0 := (g1.cell j).trans hu0
       have nf : wr.frozen? ⟨mb, j, none⟩ = false := g1.frozen j
       have HST : Hid (Fil W7 (wr.setCell ⟨mb, j, none⟩ (.int .i64 (-1))) mb (j + 1)) := hst.out.step (by omega)
       clear g1 g2 g3 hu0 hxr hst hjc
       go_wp2
       go_roundw
       case rel => exact ⟨j + 1, by omega, by go_num, HST⟩
       case measure => simp [intOf]; omega
      ·have hje : j = N := by omega
       subst hje
       obtain ⟨cs, g1, g2, g3⟩ := hst.out.cells
       have hjc := HN.out
       have hS7 := HS7.out
       have htr : Turn (fun b => w4.heap.size <= b) w4 wr := HT7.out.trans (hst.out.turn.mono (fun k _ hk => by omega))
       have hown1 := own_block_lt HRA4.out.own
       have hown2 := own_block_lt HRA4.out.ownf
       have hown3 := own_block_lt HR4.out.own
       have hown4 := own_block_lt HR4.out.ownf
       have hrA : RowsAt wr lo w.heap.size w2.heap.size na nc xs A fa fc A := HRA4.out.turn htr hs2 (by omega) (fun b hb => ⟨by omega, fun e => by have := (hown1 b e).2; omega, fun e => by have := (hown2 b e).2; omega⟩)
       have hrB : RowsAt wr lo w.heap.size w3.heap.size na' nc' xs' B fa' fc' B := HR4.out.turn htr (by omega) (by omega) (fun b hb => ⟨by omega, fun e => by have := (hown3 b e).2; omega, fun e => by have := (hown4 b e).2; omega⟩)
       have hF : FarAt wr lo w.heap.size w4.heap.size mb A B := by
        refine ⟨fun i x hx => hrA.postOf (hxr.cell 0) (hxr.cell 1) (fun b hb => ?_) hx, fun i x hx => hrB.postOf (hxr.cell 2) (hxr.cell 3) (fun b hb => ?_) hx, ?_, hxr.lt, g1.lt, hne, by omega, g1.frozen, fun a b c d ha hb hc hd => ⟨-1, (g1.cell _).trans (g3 _ (by rw [hjc]; exact ix_lt ha hb hc hd)), .inl rfl⟩⟩
        ·rcases hb with e | e
         ·have := (hown1 b e).2; omega
         ·have := (hown2 b e).2; omega
        ·rcases hb with e | e
         ·have := (hown3 b e).2; omega
         ·have := (hown4 b e).2; omega
        ·rw [<- hjc]; exact m4
       have HF : Hid (FarAt wr lo w.heap.size w4.heap.size mb A B) := hF
       have HBR : Hid (Below w.heap.size w wr) := HB7.out.trans (hst.out.turn.below (by have := HB7.out.size; omega) (fun k hk => by have := HBW.out.size; have := HB5.out.size; omega))
       have m0 : wr.cell? ⟨w4.heap.size, 0, none⟩ = some (.slice na A.length nc) := hxr.cell 0
       have m2 : wr.cell? ⟨w4.heap.size, 2, none⟩ = some (.slice na' B.length nc') := hxr.cell 2
       have hfl := hxr.lt
       have hmbs : w.heap.size <= mb := by omega
       have hnf : (w4.heap.size = mb) = False := eq_false hne
       have hcd : ∀ u : TB wr mb (fun W => FarAt W lo w.heap.size w4.heap.size mb A B), Calls Try.prog 13 #[.pointer (some ⟨w4.heap.size, 0, none⟩), .int .i64 0, .int .i64 (A.length : Int), .int .i64 0, .int .i64 (B.length : Int)] u.w fun e w'' => e = .returned (.int .i64 (zz : Int)) /\ ∃ u' : TB wr mb (fun W => FarAt W lo w.heap.size w4.heap.size mb A B), w'' = u'.w := fun u =>
        (dist_any lo w.heap.size w4.heap.size mb A B HWP.out.1 HWP.out.2 HA32.out.1 HA32.out.2 ((A.length - 0) + (B.length - 0)) u.w 0 A.length 0 B.length u.i (Cl.all A) (Cl.all B) (Nat.le_refl _)).mono (fun e w' h => ⟨by rw [HZZ.out]; exact h.1, ⟨w', u.t.trans h.2.1, h.2.2⟩, rfl⟩)
       clear g1 g2 g3 hjc hxr hst htr hown1 hown2 hown3 hown4 hrA hrB hF hlt
       go_wp2
       refine wp_region_tb mb (fun W => FarAt W lo w.heap.size w4.heap.size mb A B) (by kernel_rfl) (by kernel_rfl) HF.out (HF.out.below (Below.refl _ _).drew) ?_
       intro hne3
       repeat go_big_quiet_step ((go_at_call 13; exact hcd _))
       refine wpQuiet_nil ?_
       rintro _ ⟨u9, rfl⟩
       have HB9 : Hid (Below w.heap.size w u9.w) := HBR.out.trans (u9.t.below HBR.out.size (fun k hk => by omega))
       clear hcd m0 m2
       go_wp2
       go_ret2
       exact ⟨congrArg (fun r : Int × Int => Ending.returned (.tuple #[.int .i64 r.1, .int .i64 r.2])) HRZ.out.symm, HB9.out⟩
theorem distances_walk (n n2 : Nat) (w : World) (a a2 : Option Addr) (L : List (T n)) (L2 : List (T n2)) (c c2 : Nat) (hk : KidsAt w 0 w.heap.size n a L) (hk2 : KidsAt w 0 w.heap.size n2 a2 L2) (hl : L.length <= maxK) (hl2 : L2.length <= maxK) :
  Calls Try.prog 3 #[.slice a L.length c, .slice a2 L2.length c2] w fun e w' => e = .returned (.bool true) /\ Below w.heap.size w w' := by
 have hc1 := cpy_any n w 0 a L c hk hl
 have HK : Hid (KidsAt w 0 w.heap.size n a L) := hk
 have HK2 : Hid (KidsAt w 0 w.heap.size n2 a2 L2) := hk2
 have HL : Hid (L.length <= maxK /\ L2.length <= maxK) := ⟨hl, hl2⟩
 clear hk hk2 hl hl2
 go_enter Try.func3, Try.ntmps3
 go_wp2_with fail
 refine hc1.mono ?_
 rintro e w1 ⟨a1, c1, rfl, hk1, -, hb1⟩
 have hc2 := cpy_any n2 w1 0 a2 L2 c2 (HK2.out.after hb1) HL.out.2
 have HB1 : Hid (Below w.heap.size w w1) := hb1
 have HK1 : Hid (KidsAt w1 w.heap.size w1.heap.size n a1 L) := hk1
 clear hc1 hk1 hb1
 go_wp2_with fail
 refine hc2.mono ?_
 rintro e w2 ⟨a3, c3, rfl, hk3, -, hb2⟩
 have hs1 := HB1.out.size
 have hs2 := hb2.size
 have HB2 : Hid (Below w.heap.size w w2) := HB1.out.trans (hb2.mono hs1)
 have hp := pdist_any n n2 w2 w.heap.size a1 a3 L L2 c1 c3 (HK1.out.after hb2) (KidsAt.mono hk3 hs1 (Nat.le_refl _)) HL.out.1 HL.out.2
 clear hc2 hk3 hb2
 go_wp2_with fail
 refine hp.mono ?_
 rintro e w3 ⟨rfl, hb3⟩
 have HB3 : Hid (Below w.heap.size w w3) := HB2.out.trans (hb3.mono (by omega))
 have hr := rdist_any n n2 w3 0 a a2 L L2 c c2 (HK.out.after HB3.out) (HK2.out.after HB3.out) HL.out.1 HL.out.2
 clear hp hb3
 go_wp2_with fail
 refine hr.mono ?_
 rintro e w4 ⟨rfl, hb4⟩
 have HB4 : Hid (Below w.heap.size w w4) := HB3.out.trans (hb4.mono HB3.out.size)
 generalize (distE L L2).1 = x at *
 generalize (distE L L2).2 = y at *
 have hx : (x == x) = true := by simp
 have hy : (y == y) = true := by simp
 clear hr hb4
 go_wp2
 go_ret
 exact ⟨rfl, HB4.out⟩
end Go.Proofs.Ytmapmkogjhinmaa
