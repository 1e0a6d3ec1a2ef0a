/- In plain: all, once; turned about. -/
import Derived.Test.YtjkgjckkglfokaaGreatU26
import Derived.Test.YtjkgjckkglfokaaGreatU01
import Derived.Test.YtjkgjckkglfokaaGreatU05
import Derived.Test.YtjkgjckkglfokaaGreatU25
import Derived.Recover
import Derived.Test.YtjkgjckkglfokaaGreatU24
namespace Go.Proofs.YtjkgjckkglfokaaGreat
open Go.RowKit Go.Shelf
open Gr (Dc Sl View WF sl par hvals allR idxH allH lst ups Lev)
set_option linter.unusedVariables false
set_option linter.unusedSimpArgs false
def axl (D : Dc) (k h : Nat) : List Nat :=
 if k = 1 then lst D h else if k = 2 then (allH D h).tail else if k = 3 then allH D h else if k = 4 then (ups D h).tail.take 1 else if k = 5 then (ups D h).tail else if k = 6 then ups D h
 else if k = 7 then (allR D).drop ((idxH (allR D) h).toNat + (allH D h).length) else if k = 8 then ahead D h (idxH (allR D) h).toNat
 else if k = 9 then (lst D (par D h)).drop ((idxH (lst D (par D h)) h).toNat + 1) else if k = 10 then ((lst D (par D h)).take (idxH (lst D (par D h)) h).toNat).reverse else [h]
theorem idx_app {A B : List Nat} {h : Nat} (hn : (A ++ h :: B).Nodup) : idxH (A ++ h :: B) h = (A.length : Int) := by
 refine Gr.idxH_of (by simp) (fun j x hj hx e => ?_)
 subst e
 rw [List.getElem?_append_left hj] at hx
 have := List.mem_of_getElem? hx
 rw [List.nodup_append] at hn
 exact hn.2.2 x this x (by simp) rfl
theorem spot {D : Dc} (hw : WF D) {h : Nat} {s : Sl} (e : sl D h = some s) : ∃ A T B P, allR D = A ++ (h :: T ++ B) /\ allH D h = h :: T /\ ups D h = h :: ups D s.parent /\ idxH (allR D) h = (A.length : Int) /\ axl D 7 h = B /\ axl D 8 h = P /\ (P ++ ups D s.parent).Perm A := by
 obtain ⟨lv, hl⟩ := hw.lev
 obtain ⟨A, B, e1, e2⟩ := place hw hl _ h s e (Nat.le_refl _)
 have hst := Gr.allH_step hw e
 obtain ⟨T, hT⟩ : ∃ T, (lst D h).flatMap (allH D) = T := ⟨_, rfl⟩
 rw [hT] at hst
 rw [hst] at e1
 obtain ⟨P, g1, g2⟩ := e2 []
 have hnd := Gr.allR_nodup hw
 rw [e1] at hnd
 have hix : idxH (allR D) h = (A.length : Int) := by rw [e1]; exact idx_app (by simpa using hnd)
 refine ⟨A, T, B, P, e1, hst, Gr.ups_step hl e, hix, ?_, ?_, g2⟩
 ·unfold axl
  simp only [Nat.reduceEqDiff, if_false, if_true]
  rw [hix, hst, e1]
  simp
 ·unfold axl
  simp only [Nat.reduceEqDiff, if_false, if_true]
  unfold ahead
  rw [hix, bwd_rev, e1, show par D h = s.parent by simp [par, e]]
  simpa using g1
theorem parts {D : Dc} (hw : WF D) {h : Nat} {s : Sl} (e : sl D h = some s) : (axl D 11 h ++ axl D 5 h ++ axl D 2 h ++ axl D 8 h ++ axl D 7 h).Perm (allR D) := by
 obtain ⟨A, T, B, P, e1, e2, e3, -, e4, e5, e6⟩ := spot hw e
 rw [e4, e5, e1]
 have a1 : axl D 11 h = [h] := rfl
 have a2 : axl D 5 h = ups D s.parent := by
  unfold axl
  simp only [Nat.reduceEqDiff, if_false, if_true]
  rw [e3]; rfl
 have a3 : axl D 2 h = T := by
  unfold axl
  simp only [Nat.reduceEqDiff, if_false, if_true]
  rw [e2]; rfl
 rw [a1, a2, a3, <- List.append_assoc]
 refine List.Perm.append_right _ ?_
 have q1 : ([h] ++ ups D s.parent ++ T ++ P).Perm ((P ++ ups D s.parent) ++ (h :: T)) := by
  have : ([h] ++ ups D s.parent ++ T ++ P).Perm (P ++ ([h] ++ ups D s.parent ++ T)) := List.perm_append_comm
  refine this.trans ?_
  rw [List.append_assoc P (ups D s.parent)]
  refine List.Perm.append_left _ ?_
  rw [List.singleton_append, List.cons_append]
  exact List.perm_middle.symm
 exact q1.trans (e6.append_right _)
theorem mem_ups {D : Dc} (hw : WF D) {a b : Nat} {sa sb : Sl} (ea : sl D a = some sa) (eb : sl D b = some sb) : b ∈ allH D a ↔ a ∈ ups D b := by
 obtain ⟨lv, hl⟩ := hw.lev
 refine ⟨fun h => (Gr.alls_ups hw hl 64 a sa ea b h).2, ?_⟩
 have key : ∀ (m b : Nat) (sb : Sl), sl D b = some sb -> lv b <= m -> a ∈ ups D b -> b ∈ allH D a := by
  intro m
  induction m with
  | zero =>
   intro b sb eb hm h
   rw [Gr.ups_step hl eb] at h
   rcases List.mem_cons.1 h with rfl | h
   ·rw [Gr.allH_step hw eb]; simp
   ·rcases hl.par eb with ⟨h0, -⟩ | ⟨p, -, h2⟩
    ·rw [h0, Gr.ups_zero] at h; simp at h
    ·omega
  | succ m ih =>
   intro b sb eb hm h
   rw [Gr.ups_step hl eb] at h
   rcases List.mem_cons.1 h with rfl | h
   ·rw [Gr.allH_step hw eb]; simp
   ·rcases hl.par eb with ⟨h0, -⟩ | ⟨p, hp, h2⟩
    ·rw [h0, Gr.ups_zero] at h; simp at h
    ·exact (Gr.allH_kid hw hl _ a sa ea (Nat.le_refl _) _ (ih _ p hp (by omega) h)).1 b (hw.up b sb eb)
 exact key _ b sb eb (Nat.le_refl _)
theorem ups_out {D : Dc} (hw : WF D) {b : Nat} {sb : Sl} (eb : sl D b = some sb) : b ∉ ups D sb.parent := by
 obtain ⟨A, T, B, P, e1, -, -, -, -, -, e6⟩ := spot hw eb
 intro h
 have hA : b ∈ A := e6.subset (List.mem_append_right _ h)
 have hnd := Gr.allR_nodup hw
 rw [e1, List.nodup_append] at hnd
 exact hnd.2.2 b hA b (by simp) rfl
theorem turn_self {D : Dc} (a b : Nat) : b ∈ axl D 11 a ↔ a ∈ axl D 11 b := by
 rw [show axl D 11 a = [a] from rfl, show axl D 11 b = [b] from rfl]
 simp only [List.mem_singleton]
 exact ⟨fun h => h.symm, fun h => h.symm⟩
theorem turn_or {D : Dc} (hw : WF D) {a b : Nat} {sa sb : Sl} (ea : sl D a = some sa) (eb : sl D b = some sb) : b ∈ axl D 3 a ↔ a ∈ axl D 6 b := mem_ups hw ea eb
theorem turn_desc {D : Dc} (hw : WF D) {a b : Nat} {sa sb : Sl} (ea : sl D a = some sa) (eb : sl D b = some sb) : b ∈ axl D 2 a ↔ a ∈ axl D 5 b := by
 obtain ⟨A, T, B, P, e1, e2, -, -, -, -, -⟩ := spot hw ea
 obtain ⟨lv, hl⟩ := hw.lev
 have hm := mem_ups hw ea eb
 have hnd := Gr.allH_nodup hw ea
 have ho := ups_out hw eb
 rw [show axl D 2 a = (allH D a).tail from rfl, show axl D 5 b = (ups D b).tail from rfl]
 rw [e2] at hm hnd ⊢
 rw [Gr.ups_step hl eb] at hm ⊢
 rw [List.nodup_cons] at hnd
 simp only [List.tail_cons, List.mem_cons] at hm ⊢
 refine ⟨fun h => ?_, fun h => ?_⟩
 ·rcases hm.1 (.inr h) with rfl | h'
  ·exact absurd h hnd.1
  ·exact h'
 ·rcases hm.2 (.inr h) with rfl | h'
  ·exact absurd h ho
  ·exact h'
theorem turn_kid {D : Dc} (hw : WF D) {a b : Nat} {sa sb : Sl} (ea : sl D a = some sa) (eb : sl D b = some sb) : b ∈ axl D 1 a ↔ a ∈ axl D 4 b := by
 obtain ⟨lv, hl⟩ := hw.lev
 rw [show axl D 1 a = lst D a from rfl, show axl D 4 b = (ups D b).tail.take 1 from rfl, Gr.ups_step hl eb, List.tail_cons]
 have ha0 : a ≠ 0 := by rintro rfl; rw [Gr.sl_zero] at ea; cases ea
 have h1 : b ∈ lst D a ↔ a = sb.parent := by
  refine ⟨fun h => ?_, fun h => ?_⟩
  ·obtain ⟨s', e', hp⟩ := hw.down a (.inr ⟨sa, ea⟩) b h
   rw [eb] at e'; cases e'
   exact hp.symm
  ·rw [h]; exact hw.up b sb eb
 rw [h1]
 rcases hl.par eb with ⟨h0, -⟩ | ⟨p, hp, -⟩
 ·rw [h0, Gr.ups_zero]
  simp [ha0]
 ·rw [Gr.ups_step hl hp]
  simp
theorem turn_fol {D : Dc} (hw : WF D) {a b : Nat} {sa sb : Sl} (ea : sl D a = some sa) (eb : sl D b = some sb) : b ∈ axl D 7 a ↔ a ∈ axl D 8 b := by
 obtain ⟨A, T, B, P, e1, e2, -, -, e4, -, -⟩ := spot hw ea
 obtain ⟨A', T', B', P', f1, f2, f3, -, -, f5, f6⟩ := spot hw eb
 obtain ⟨lv, hl⟩ := hw.lev
 have hm := mem_ups hw ea eb
 rw [e4, f5]
 have hnd := Gr.allR_nodup hw
 have hnd2 := hnd
 rw [e1] at hnd
 rw [f1] at hnd2
 have hbR : b ∈ allR D := by rw [f1]; simp
 have haR : a ∈ allR D := by rw [e1]; simp
 -- where the first of two stands
 have hcut : A ++ (a :: T ++ B) = A' ++ (b :: T' ++ B') := e1.symm.trans f1
 rw [List.nodup_append] at hnd hnd2
 constructor
 ·intro hb
  have hbn : b ∉ allH D a := by
   rw [e2]
   intro h
   have := hnd.2.1
   rw [List.nodup_append] at this
   exact this.2.2 b h b hb rfl
  have hau : a ∉ ups D b := fun h => hbn (hm.2 h)
  have haA : a ∈ A' := by
   -- a stands ahead of b
   rcases List.append_eq_append_iff.1 hcut with ⟨C, c1, c2⟩ | ⟨C, c1, c2⟩
   ·-- A' = A ++ C, a :: T ++ B = C ++ (b :: T' ++ B')
    cases C with
    | nil =>
     simp only [List.nil_append, List.cons_append, List.cons.injEq] at c2
     exact absurd (by rw [f3, c2.1]; simp) hau
    | cons x C =>
     simp only [List.cons_append, List.cons.injEq] at c2
     rw [c1, c2.1]; simp
   ·-- A = A' ++ C: b stands in A or is a
    exfalso
    cases C with
    | nil =>
     simp only [List.nil_append, List.cons_append, List.cons.injEq] at c2
     exact hau (by rw [f3, c2.1]; simp)
    | cons x C =>
     simp only [List.cons_append, List.cons.injEq] at c2
     have : b ∈ A := by rw [c1, c2.1]; simp
     exact hnd.2.2 b this b (by simp [hb]) rfl
  rcases List.mem_append.1 (f6.symm.subset haA) with h | h
  ·exact h
  ·exact absurd (by rw [f3]; exact List.mem_cons_of_mem _ h) hau
 ·intro ha
  have haA : a ∈ A' := f6.subset (List.mem_append_left _ ha)
  have hau : a ∉ ups D b := by
   rw [f3]
   intro h
   rcases List.mem_cons.1 h with rfl | h
   ·exact hnd2.2.2 a haA a (by simp) rfl
   ·have hp : (P' ++ ups D sb.parent).Nodup := (f6.nodup_iff).2 hnd2.1
    rw [List.nodup_append] at hp
    exact hp.2.2 a ha a h rfl
  have hbn : b ∉ a :: T := fun h => hau (hm.1 (by rw [e2]; exact h))
  have hbA : b ∉ A := by
   intro hbA
   rcases List.append_eq_append_iff.1 hcut with ⟨C, c1, c2⟩ | ⟨C, c1, c2⟩
   ·exact hnd2.2.2 b (by rw [c1]; exact List.mem_append_left _ hbA) b (by simp) rfl
   ·exact hnd.2.2 a (by rw [c1]; exact List.mem_append_left _ haA) a (by simp) rfl
  rw [e1] at hbR
  simp only [List.mem_append] at hbR
  rcases hbR with h | h | h
  ·exact absurd h hbA
  ·exact absurd h hbn
  ·exact h
theorem turn_sib {D : Dc} (hw : WF D) {a b : Nat} {sa sb : Sl} (ea : sl D a = some sa) (eb : sl D b = some sb) : b ∈ axl D 9 a ↔ a ∈ axl D 10 b := by
 rw [show axl D 9 a = (lst D (par D a)).drop ((idxH (lst D (par D a)) a).toNat + 1) from rfl, show axl D 10 b = ((lst D (par D b)).take (idxH (lst D (par D b)) b).toNat).reverse from rfl]
 have pa : par D a = sa.parent := by simp [par, ea]
 have pb : par D b = sb.parent := by simp [par, eb]
 rw [pa, pb, List.mem_reverse]
 obtain ⟨lv, hl⟩ := hw.lev
 have live : ∀ {s : Sl} {h : Nat}, sl D h = some s -> (s.parent = 0 \/ ∃ q, sl D s.parent = some q) := fun e => (hl.par e).imp (·.1) (fun ⟨p, h, _⟩ => ⟨p, h⟩)
 obtain ⟨X, Y, e1⟩ := List.append_of_mem (hw.up a sa ea)
 obtain ⟨X', Y', f1⟩ := List.append_of_mem (hw.up b sb eb)
 have n1 := hw.nodup sa.parent
 have n2 := hw.nodup sb.parent
 rw [e1] at n1
 rw [f1] at n2
 have i1 : (lst D sa.parent).drop ((idxH (lst D sa.parent) a).toNat + 1) = Y := by rw [e1, idx_app n1]; simp
 have i2 : (lst D sb.parent).take (idxH (lst D sb.parent) b).toNat = X' := by rw [f1, idx_app n2]; simp
 rw [i1, i2]
 constructor
 ·intro hb
  have hbl : b ∈ lst D sa.parent := by rw [e1]; simp [hb]
  obtain ⟨s', g1, g2⟩ := hw.down _ (live ea) b hbl
  rw [eb] at g1; cases g1
  have hc : X ++ a :: Y = X' ++ b :: Y' := by rw [<- e1, <- f1, g2]
  rw [List.nodup_append] at n1
  rcases List.append_eq_append_iff.1 hc with ⟨C, c1, c2⟩ | ⟨C, c1, c2⟩
  ·cases C with
   | nil =>
    simp only [List.nil_append, List.cons.injEq] at c2
    have := n1.2.1
    rw [List.nodup_cons] at this
    exact absurd hb (c2.1 ▸ this.1)
   | cons x C =>
    simp only [List.cons_append, List.cons.injEq] at c2
    rw [c1, c2.1]; simp
  ·exfalso
   cases C with
   | nil =>
    simp only [List.nil_append, List.cons.injEq] at c2
    have := n1.2.1
    rw [List.nodup_cons] at this
    exact absurd hb (c2.1 ▸ this.1)
   | cons x C =>
    simp only [List.cons_append, List.cons.injEq] at c2
    exact n1.2.2 b (by rw [c1, c2.1]; simp) b (by simp [hb]) rfl
 ·intro ha
  have hal : a ∈ lst D sb.parent := by rw [f1]; simp [ha]
  obtain ⟨s', g1, g2⟩ := hw.down _ (live eb) a hal
  rw [ea] at g1; cases g1
  have hc : X ++ a :: Y = X' ++ b :: Y' := by rw [<- e1, <- f1, g2]
  rw [List.nodup_append] at n1 n2
  have hbl : b ∈ X ++ a :: Y := by rw [hc]; simp
  rcases List.mem_append.1 hbl with h | h
  ·exfalso
   rcases List.append_eq_append_iff.1 hc with ⟨C, c1, c2⟩ | ⟨C, c1, c2⟩
   ·exact n2.2.2 b (by rw [c1]; exact List.mem_append_left _ h) b (by simp) rfl
   ·exact n1.2.2 a (by rw [c1]; exact List.mem_append_left _ ha) a (by simp) rfl
  ·rcases List.mem_cons.1 h with rfl | h
   ·exact absurd rfl (n2.2.2 b ha b (by simp))
   ·exact h
end Go.Proofs.YtjkgjckkglfokaaGreat
/- The axes as lists: within, upward, following. -/
namespace Go.Proofs.YtjkgjckkglfokaaGreat
open Go.RowKit Go.Shelf
open Gr (Dc Sl View WF sl par hvals allR idxH allH lst ups Lev)
set_option linter.unusedVariables false
set_option linter.unusedSimpArgs false
set_option maxRecDepth 100000
set_option maxHeartbeats 2000000
attribute [local go_sem] Oper.semAt_some
def MkP (w : World) (L : List Nat) (e : Ending) (w' : World) : Prop := ∃ a c, e = .returned (.slice a L.length c) /\ w'.ownsRow w.heap.size 27 1 (.slice a L.length c) L.length (hvals L) /\ Below w.heap.size w w'
theorem MkP.al {w w' : World} {L : List Nat} {e : Ending} (h : MkP w L e w') : AlP w L e w' := by
 obtain ⟨a, c, rfl, ho, hb⟩ := h
 obtain ⟨g, h1, h2⟩ := hds_own ho
 exact ⟨a, c, g, rfl, h1, h2, own_cap ho, hb⟩
theorem HdsAt.drop {w : World} {g o : Nat} {L : List Nat} (h : HdsAt w g (some ⟨g, o, none⟩) L) (m : Nat) : HdsAt w g (some ⟨g, o + m, none⟩) (L.drop m) := fun i x hx => by
 rw [List.getElem?_drop] at hx
 obtain ⟨o', e, h1, h2⟩ := h (m + i) x hx
 cases e
 exact ⟨_, rfl, h1, by rw [Nat.add_assoc]; exact h2⟩
def lenV : Value -> Nat
 | .slice _ n _ => n
 | _ => 0
theorem within_live (w : World) (R : Nat -> Prop) (db : Nat) (D : Dc) (h : Nat) (s : Sl) (hv : View w R db D) (hw : WF D) (hs : sl D h = some s) :
  Calls Tryz.prog 63 #[.pointer (some ⟨db, 0, none⟩), .int .u64 (h : Int)] w (MkP w (allH D h)) := by
 have hp := Gr.pall_some w R db D h s hv hw hs
 clear hv hw hs
 go_enter Tryz.func63, Tryz.ntmps63
 go_wp2_with fail
 refine hp.mono ?_
 rintro e w1 ⟨a, cap, rfl, ho, hb⟩
 have HB : Hid (Below w.heap.size w w1 /\ w1.ownsRow w.heap.size 27 1 (.slice a (allH D h).length cap) (allH D h).length (hvals (allH D h))) := ⟨hb, ho⟩
 clear hb hp ho
 go_wp2
 go_ret
 exact ⟨a, cap, rfl, HB.out.2, HB.out.1⟩
theorem upward_any (w : World) (R : Nat -> Prop) (db : Nat) (D : Dc) (h : Nat) (s : Sl) (hv : View w R db D) (hw : WF D) (hs : sl D h = some s) :
  Calls Tryz.prog 64 #[.pointer (some ⟨db, 0, none⟩), .int .u64 (h : Int)] w (MkP w (ups D h)) := by
 obtain ⟨lv, hlv⟩ := hw.lev
 have hd64 : (ups D h).length <= 64 := by rw [Gr.ups_length hlv (.inr ⟨s, hs⟩)]; exact Gr.dep_le hlv (.inr ⟨s, hs⟩)
 have HV := hid hv
 have HW := hid hw
 have HL := hid hlv
 have HS : Hid (h = 0 \/ ∃ s, sl D h = some s) := .inr ⟨s, hs⟩
 clear hv hw hlv hs
 go_enter Tryz.func64, Tryz.ntmps64
 go_wp2
 go_loopw [1, 5] (fun v q wr => ∃ (x : Nat) (pre : List Nat) (a : Option Addr) (c : Nat), v = .int .u64 (x : Int) /\ q = .slice a pre.length c /\ pre.length <= 64 /\ Hid (x = 0 \/ ∃ s, sl D x = some s) /\ Hid (ups D h = pre ++ ups D x) /\ Hid (wr.ownsRow w.heap.size 27 1 (.slice a pre.length c) pre.length (hvals pre)) /\ Hid (Below w.heap.size w wr)) (fun v q _ => 64 - (lenV q))
 case atStart => exact ⟨h, [], none, 0, rfl, rfl, by simp, HS, rfl, Gr.own_nil _ _ _ _, Below.refl _ _⟩
 case round =>
  obtain ⟨x, pre, a, c, rfl, rfl, hp64, hx, hu, ho, hbw⟩ := hrel
  by_cases h0 : x = 0
  ·have hb : ((x : Int) == 0) = true := by simp [h0]
   have he : ups D h = pre := by have := hu.out; rw [h0, Gr.ups_zero, List.append_nil] at this; exact this
   have HE := hid he
   clear h0 hu hx he
   go_wp2
   go_ret
   show MkP w (ups D h) _ _
   rw [HE.out]
   exact ⟨a, c, rfl, ho.out, hbw.out⟩
  ·have hb : ((x : Int) == 0) = false := by simp; omega
   obtain ⟨s, hs⟩ : ∃ s, sl D x = some s := by
    rcases hx.out with h | h
    ·exact absurd h h0
    ·exact h
   have hst := Gr.ups_step HL.out hs
   obtain ⟨hdp, hpp⟩ := Gr.dep_par HL.out hs
   have HU : Hid (ups D h = (pre ++ [x]) ++ ups D s.parent) := by show _ = _; rw [hu.out, hst]; simp
   have hp63 : pre.length + 1 <= 64 := by have := HU.out; rw [this] at hd64; simp at hd64; omega
   have HP := hid hpp
   have hxl := (HW.out.lt hs).1
   have HSX := hid hs
   have hbs := hbw.out.size
   have tok : True := trivial
   clear hst hdp hpp hx hu hs h0
   go_wp2_with (at_builtin; have _t := tok; refine Gr.wpList_app rfl _ _ rfl Tryz.underlying23 Gr.info42 rfl (by decide) w.heap.size (.slice a pre.length c) pre.length (hvals pre) rfl (Gr.own_of_block ho.out (fun k hk => Below.heap_alloc _ _ _ (Gr.own_block_lt ho.out k hk).2)) (some ⟨wr.heap.size, 0, none⟩) 1 1 [.int .u64 (x : Int)] rfl rfl (Gr.news_new wr #[.int .u64 (x : Int)] 27) (by simp [Value.oneCell']) (by unfold maxLen; omega) (by omega) (by simp; omega) ?_; intro v1 w0 hown1 hg1 _ hat1; clear tok _t; obtain ⟨va1, vc1, hv1⟩ := Gr.own_slice hown1; subst hv1; have HO0 : Hid (w0.ownsRow w.heap.size 27 1 (.slice va1 (pre.length + 1) vc1) (pre.length + 1) (hvals (pre ++ [x]))) := (by rw [Gr.hvals_append]; exact hown1); have HB0 := hid ((((hbw.out).alloc hbs _).grown hg1 (by simp; omega) (fun k hk => (Gr.own_block_lt ho.out k hk).1))); clear hown1 hg1 hat1)
   have hab := above_live w0 R db D x s (HV.out.below HB0.out) HW.out HSX.out
   rw [show par D x = s.parent by simp [par, HSX.out]] at hab
   go_wp2_with fail
   refine hab.mono ?_
   rintro e w1 ⟨rfl, hb1⟩
   have HB1 := hid (HB0.out.trans (hb1.mono (by have := HB0.out.size; omega)))
   have HO1 := hid (Gr.own_after HO0.out hb1)
   clear hab hb1 HB0 HO0 ho
   go_wp2
   go_roundw
   case rel => exact ⟨s.parent, pre ++ [x], va1, vc1, rfl, by simp, by simp; omega, HP, HU, by rw [List.length_append]; exact HO1, HB1⟩
   case measure => simp [lenV]; omega
theorem following_any (w : World) (R : Nat -> Prop) (db : Nat) (D : Dc) (h m k : Nat) (s : Sl) (hv : View w R db D) (hw : WF D) (hs : sl D h = some s) (hm : idxH (allR D) h = (m : Int)) (hk : (allH D h).length = k) (hmk : m + k <= (allR D).length) (hk1 : 1 <= k) :
  Calls Tryz.prog 65 #[.pointer (some ⟨db, 0, none⟩), .int .u64 (h : Int)] w (AlP w ((allR D).drop (m + k))) := by
 have hlen := (Gr.roots_len hw).2
 have HV : Hid (View w R db D /\ WF D /\ sl D h = some s) := ⟨hv, hw, hs⟩
 have hz := within_zero w R db D hv hw
 obtain ⟨n, hn⟩ : ∃ n, (allR D).length = n := ⟨_, rfl⟩
 have HN := hid hn
 have HM := hid hm
 have hdl : ((allR D).drop (m + k)).length = n - (m + k) := by rw [List.length_drop, hn]
 unfold AlP
 rw [hdl]
 rw [hn] at hmk hlen hz
 clear hv hw hs hm hn hdl
 go_enter Tryz.func65, Tryz.ntmps65
 go_wp2_with fail
 refine hz.mono ?_
 rintro e w1 ⟨a, cap, rfl, ho, hb⟩
 obtain ⟨g, rfl, hg1, hg2, hcap, hd1, hh1⟩ := row_hands ho HN.out (by omega)
 have HB := hid hb
 have HD := hid hd1
 have hix := Gr.index_any w1 (fun b => b = g) (some ⟨g, 0, none⟩) (allR D) cap h hh1 (by have := HN.out; omega) (m : Int) HM.out
 rw [HN.out] at hix
 have hwl := within_live w1 R db D h s (HV.out.1.below hb) HV.out.2.1 HV.out.2.2
 unfold MkP at hwl
 rw [hk] at hwl
 clear hz ho hb hd1 hh1 hk
 go_wp2_with fail
 refine hix.mono ?_
 rintro e w' ⟨rfl, rfl⟩
 go_wp2_with fail
 refine hwl.mono ?_
 rintro e w2 ⟨a2, c2, rfl, -, hb2⟩
 have HB2 : Hid (Below w.heap.size w w2 /\ HdsAt w2 g (some ⟨g, 0 + (m + k), none⟩) ((allR D).drop (m + k))) := by
  refine ⟨HB.out.trans (hb2.mono (by have := HB.out.size; omega)), ?_⟩
  exact (HD.out.tn (Tn.of_below (A := fun _ => False) hb2 (Nat.le_refl _)) (fun _ h => h)).drop (m + k)
 have e0 : (0 : Int) <= (m : Int) + (k : Int) := by omega
 have e1 : (m : Int) + (k : Int) <= (n : Int) := by omega
 have e2 : ((m : Int) + (k : Int)).toNat = m + k := by omega
 clear hix hwl hb2
 go_wp2
 case inl hc =>
  have he : (allR D).drop (m + k) = [] := List.drop_eq_nil_of_le (by have := HN.out; omega)
  go_ret
  refine ⟨some ⟨g, 0, none⟩, 0, rfl, g, fun i x hx => ?_, fun _ => hg1, by omega, HB2.out.1⟩
  rw [he] at hx
  simp at hx
 case inr hc =>
  go_ret
  exact ⟨some ⟨g, m + k, none⟩, _, rfl, g, by have := HB2.out.2; rwa [Nat.zero_add] at this, fun _ => hg1, by omega, HB2.out.1⟩
end Go.Proofs.YtjkgjckkglfokaaGreat
/- The axes of WalkParts: along at 11, 5, 2, 7, 8. -/
namespace Go.Proofs.YtjkgjckkglfokaaGreat
open Go.RowKit Go.Shelf
open Gr (Dc Sl View WF sl par hvals allR idxH allH lst ups Lev)
set_option linter.unusedVariables false
set_option linter.unusedSimpArgs false
set_option maxRecDepth 100000
set_option maxHeartbeats 1000000
attribute [local go_sem] Oper.semAt_some
theorem along_self (w : World) (db h : Nat) : Calls Tryz.prog 27 #[.pointer (some ⟨db, 0, none⟩), .int .i64 ((11 : Nat) : Int), .int .u64 (h : Int)] w (AlP w [h]) := by
 show Calls Tryz.prog 27 #[.pointer (some ⟨db, 0, none⟩), .int .i64 11, .int .u64 (h : Int)] w (AlP w [h])
 go_enter Tryz.func27, Tryz.ntmps27
 go_wp2
 go_ret
 refine ⟨some ⟨w.heap.size, 0, none⟩, 1, w.heap.size, rfl, fun i x hx => ⟨0, rfl, by simp, ?_⟩, fun _ => Nat.le_refl _, Nat.le_refl _, (Below.refl _ _).alloc (Nat.le_refl _) _⟩
 cases i with
 | zero =>
  simp at hx
  subst hx
  exact (isC_new w #[.int .u64 (h : Int)] 27).cell 0
 | succ i => simp at hx
theorem al_one {w w' : World} {L : List Nat} {x : Nat} {g cap : Nat} (ho : w'.ownsRow w.heap.size 27 1 (.slice (some ⟨g, 0, none⟩) (x :: L).length cap) (x :: L).length (hvals (x :: L))) (hb : Below w.heap.size w w') :
  w.heap.size <= g /\ HdsAt w' g (some ⟨g, 1, none⟩) L /\ L.length + 1 <= cap := by
 obtain ⟨g', e, h1, h2, h3, h4, -⟩ := row_hands ho rfl (by simp)
 cases e
 exact ⟨h1, by have := h4.drop 1; rwa [Nat.zero_add] at this, by simpa using h3⟩
theorem along_anc (w : World) (R : Nat -> Prop) (db : Nat) (D : Dc) (h : Nat) (s : Sl) (hv : View w R db D) (hw : WF D) (hs : sl D h = some s) :
  Calls Tryz.prog 27 #[.pointer (some ⟨db, 0, none⟩), .int .i64 ((5 : Nat) : Int), .int .u64 (h : Int)] w (AlP w (axl D 5 h)) := by
 have hu := upward_any w R db D h s hv hw hs
 obtain ⟨lv, hl⟩ := hw.lev
 rw [show axl D 5 h = (ups D h).tail from rfl]
 rw [Gr.ups_step hl hs] at hu ⊢
 rw [List.tail_cons]
 generalize ups D s.parent = L at *
 show Calls Tryz.prog 27 #[.pointer (some ⟨db, 0, none⟩), .int .i64 5, .int .u64 (h : Int)] w (AlP w L)
 clear hv hw hs hl
 go_enter Tryz.func27, Tryz.ntmps27
 go_wp2_with fail
 refine hu.mono ?_
 rintro e w1 ⟨a, cap, rfl, ho, hb⟩
 obtain ⟨g, rfl, -⟩ := row_hands ho rfl (by simp)
 obtain ⟨h1, h2, h3⟩ := al_one ho hb
 have HB : Hid (w.heap.size <= g /\ HdsAt w1 g (some ⟨g, 1, none⟩) L /\ L.length + 1 <= cap /\ Below w.heap.size w w1) := ⟨h1, h2, h3, hb⟩
 have hc : (1 : Int) <= ((h :: L).length : Int) := by simp only [List.length_cons]; omega
 have hlc : (h :: L).length = L.length + 1 := rfl
 rw [hlc] at hc ⊢
 clear hu ho hb h1 h2
 go_wp2
 case inl hcc =>
  have he : L = [] := List.length_eq_zero_iff.1 (by omega)
  subst he
  go_ret
  exact ⟨some ⟨g, 0, none⟩, 0, g, rfl, fun i x hx => by simp at hx, fun _ => HB.out.1, Nat.le_refl _, HB.out.2.2.2⟩
 case inr hcc =>
  go_ret
  exact ⟨some ⟨g, 1, none⟩, _, g, rfl, HB.out.2.1, fun _ => HB.out.1, by have := HB.out.2.2.1; omega, HB.out.2.2.2⟩
theorem along_desc (w : World) (R : Nat -> Prop) (db : Nat) (D : Dc) (h : Nat) (s : Sl) (hv : View w R db D) (hw : WF D) (hs : sl D h = some s) :
  Calls Tryz.prog 27 #[.pointer (some ⟨db, 0, none⟩), .int .i64 ((2 : Nat) : Int), .int .u64 (h : Int)] w (AlP w (axl D 2 h)) := by
 have hu := within_live w R db D h s hv hw hs
 rw [show axl D 2 h = (allH D h).tail from rfl]
 rw [Gr.allH_step hw hs] at hu ⊢
 rw [List.tail_cons]
 generalize (lst D h).flatMap (allH D) = L at *
 show Calls Tryz.prog 27 #[.pointer (some ⟨db, 0, none⟩), .int .i64 2, .int .u64 (h : Int)] w (AlP w L)
 clear hv hw hs
 go_enter Tryz.func27, Tryz.ntmps27
 go_wp2_with fail
 refine hu.mono ?_
 rintro e w1 ⟨a, cap, rfl, ho, hb⟩
 obtain ⟨g, rfl, -⟩ := row_hands ho rfl (by simp)
 obtain ⟨h1, h2, h3⟩ := al_one ho hb
 have HB : Hid (w.heap.size <= g /\ HdsAt w1 g (some ⟨g, 1, none⟩) L /\ L.length + 1 <= cap /\ Below w.heap.size w w1) := ⟨h1, h2, h3, hb⟩
 have hc : (1 : Int) <= ((h :: L).length : Int) := by simp only [List.length_cons]; omega
 have hlc : (h :: L).length = L.length + 1 := rfl
 rw [hlc] at hc ⊢
 clear hu ho hb h1 h2
 go_wp2
 case inl hcc =>
  have he : L = [] := List.length_eq_zero_iff.1 (by omega)
  subst he
  go_ret
  exact ⟨some ⟨g, 0, none⟩, 0, g, rfl, fun i x hx => by simp at hx, fun _ => HB.out.1, Nat.le_refl _, HB.out.2.2.2⟩
 case inr hcc =>
  go_ret
  exact ⟨some ⟨g, 1, none⟩, _, g, rfl, HB.out.2.1, fun _ => HB.out.1, by have := HB.out.2.2.1; omega, HB.out.2.2.2⟩
theorem along_fol (w : World) (R : Nat -> Prop) (db : Nat) (D : Dc) (h : Nat) (s : Sl) (hv : View w R db D) (hw : WF D) (hs : sl D h = some s) :
  Calls Tryz.prog 27 #[.pointer (some ⟨db, 0, none⟩), .int .i64 ((7 : Nat) : Int), .int .u64 (h : Int)] w (AlP w (axl D 7 h)) := by
 obtain ⟨A, T, B, P, e1, e2, -, e4, -, -, -⟩ := spot hw hs
 have hf := following_any w R db D h A.length (allH D h).length s hv hw hs e4 rfl (by rw [e1, e2]; simp only [List.length_append]; omega) (by rw [e2]; simp)
 rw [show axl D 7 h = (allR D).drop ((idxH (allR D) h).toNat + (allH D h).length) from rfl, e4, Int.toNat_natCast]
 generalize (allR D).drop (A.length + (allH D h).length) = L at *
 show Calls Tryz.prog 27 #[.pointer (some ⟨db, 0, none⟩), .int .i64 7, .int .u64 (h : Int)] w (AlP w L)
 clear hv hw hs e1 e2 e4
 go_enter Tryz.func27, Tryz.ntmps27
 go_wp2_with fail
 refine hf.mono ?_
 rintro e w1 ⟨a, c, g, rfl, h1, h2, h3, h4⟩
 have HB : Hid (HdsAt w1 g a L /\ (L ≠ [] -> w.heap.size <= g) /\ L.length <= c /\ Below w.heap.size w w1) := ⟨h1, h2, h3, h4⟩
 clear hf h1 h2 h3 h4
 go_wp2
 go_ret
 exact ⟨a, c, g, rfl, HB.out⟩
theorem along_pre (w : World) (R : Nat -> Prop) (db : Nat) (D : Dc) (h : Nat) (s : Sl) (hv : View w R db D) (hw : WF D) (hs : sl D h = some s) :
  Calls Tryz.prog 27 #[.pointer (some ⟨db, 0, none⟩), .int .i64 ((8 : Nat) : Int), .int .u64 (h : Int)] w (AlP w (axl D 8 h)) := by
 obtain ⟨A, T, B, P, e1, e2, -, e4, -, -, -⟩ := spot hw hs
 exact along_prec w R db D h A.length s hv hw hs e4 (by rw [e1]; simp) _ (by rw [show axl D 8 h = ahead D h (idxH (allR D) h).toNat from rfl, e4, Int.toNat_natCast])
end Go.Proofs.YtjkgjckkglfokaaGreat
/- runs: a call whose panic would be caught. -/
namespace Go.Proofs.YtjkgjckkglfokaaGreat
open Go.RowKit Go.Shelf
open Gr (hvals)
set_option linter.unusedVariables false
set_option linter.unusedSimpArgs false
set_option maxRecDepth 100000
set_option maxHeartbeats 2000000
theorem rec_idle (w : World) : CallsD Tryz.prog 123 #[] .returning w fun e u' w' => e = .returned (.tuple #[]) /\ u' = .returning /\ w' = w := by
 refine callsD_of_wpS Tryz.func123 rfl fun c₀ cs hu => ?_
 first
  | apply wpS_region
  | (apply wpS_seq; apply wpS_region)
 simp [wpOpsS, go_sem, recoverD, hu, Tryz.ntmps123]
 cases c₀
 simp_all [bodyPostS, results, Tryz.results123]
theorem runs_any (W : World) (mf : Nat) (ml : Array Value) (Q : World -> Prop) (em : ∀ args w, (callFunc mf args).run Tryz.prog w = .ok (.enter mf args) w) (hc : Calls Tryz.prog mf ml W fun e Y => (∃ v, e = .returned v) /\ Q Y) :
  Calls Tryz.prog 95 #[.func (.func mf) #[] ml] W fun e Y => e = .returned (.bool true) /\ Q Y := by
 go_enter_defers Tryz.func95, Tryz.ntmps95
 go_wp2_with fail
 refine hc.mono ?_
 rintro e Y ⟨⟨v, rfl⟩, hq⟩
 have HQ := hid hq
 clear hq hc
 go_wp2
 refine leaves_cons (f := 123) (args := #[]) (by simp) (by simp [go_sem]) ?_
 refine (rec_idle _).mono ?_
 rintro e u' w6 ⟨rfl, rfl, rfl⟩
 exact ⟨_, results_tmp rfl _ _ _, rfl, HQ.out⟩
def ListP (xs : List Nat) (T : Nat -> Prop) (Sq : World -> Prop) (most : Int) (W : World) (e : Ending) (Y : World) : Prop :=
 Tn T W Y /\ Sq Y /\ (((xs.length : Int) <= most /\ ∃ a c, e = .returned (.tuple #[.slice a xs.length c, .int .i64 0]) /\ Y.ownsRow W.heap.size 27 1 (.slice a xs.length c) xs.length (hvals xs)) \/ (most < (xs.length : Int) /\ e = .returned (.tuple #[.slice none 0 0, .int .i64 2])))
theorem list_any {gf : Nat} {lb : Array Value} {xs : List Nat} {R T : Nat -> Prop} {Sq : World -> Prop} (hs : IsSeq Tryz.prog gf lb encH xs R T Sq) (eg : ∀ args w, (callFunc gf args).run Tryz.prog w = .ok (.enter gf args) w)
  (W : World) (hq : Sq W) (most : Int) (hm : 0 <= most) (hl : xs.length < 1099511627776) : Calls Tryz.prog 49 #[.func (.func gf) #[] lb, .int .i64 most] W (ListP xs T Sq most W) := by
 have hq1 : ∀ w, (binOp .eql 40 (.func (.func gf) #[] lb) .nilFunc).run Tryz.prog w = .ok (.bool false) w := fun _ => by kernel_rfl
 have hmf : ∀ (fn : Fn) (first cap : Array Value) (w : World), (Instr.makeFunc fn first cap).run Tryz.prog w = .ok (.func fn first cap) w := fun _ _ _ _ => rfl
 obtain ⟨W0, hW0⟩ : ∃ W0, ((((W.alloc (.cells #[.func (.func gf) #[] lb] 40)).alloc (.cells #[.int .i64 most] 3)).alloc (.cells #[.slice none 0 0] 23)).alloc (.cells #[.bool false] 4)) = W0 := ⟨_, rfl⟩
 have t0 : Tn (fun _ => False) W W0 := by rw [<- hW0]; exact ((((Tn.refl _ _).alloc _).alloc _).alloc _).alloc _
 have hy0 : IsC W0 W.heap.size #[.func (.func gf) #[] lb] /\ IsC W0 (W.heap.size + 1) #[.int .i64 most] /\ IsC W0 (W.heap.size + 2) #[.slice none 0 0] /\ IsC W0 (W.heap.size + 3) #[.bool false] := by
  have h1 := isC_new W #[.func (.func gf) #[] lb] 40
  have h2 := isC_new (W.alloc (.cells #[.func (.func gf) #[] lb] 40)) #[.int .i64 most] 3
  have h3 := isC_new ((W.alloc (.cells #[.func (.func gf) #[] lb] 40)).alloc (.cells #[.int .i64 most] 3)) #[.slice none 0 0] 23
  have h4 := isC_new (((W.alloc (.cells #[.func (.func gf) #[] lb] 40)).alloc (.cells #[.int .i64 most] 3)).alloc (.cells #[.slice none 0 0] 23)) #[.bool false] 4
  rw [<- hW0]
  have n := fun (w : World) (o : Obj) => (Tn.refl (fun _ => False) w).alloc o
  refine ⟨((h1.tn (n _ _) id).tn (n _ _) id).tn (n _ _) id, ?_, ?_, ?_⟩
  ·simpa using (h2.tn (n _ _) id).tn (n _ _) id
  ·simpa using h3.tn (n _ _) id
  ·simpa using h4
 have hRl : ∀ b, R b -> b < W.heap.size := hs.lt _ hq
 have hl1 := list1_any hs eg W0 (hs.stab _ _ _ hq t0 (fun _ _ h => h)) W.heap.size (W.heap.size + 2) (W.heap.size + 1) (W.heap.size + 3) most hy0.1 hy0.2.2.1 hy0.2.1 hy0.2.2.2 hm (fun h => by have := hRl _ h; omega) (fun h => by have := hRl _ h; omega) (fun h => by have := hRl _ h; omega) (by omega) (by omega) (by omega) hl
 have hrun := runs_any W0 96 #[.pointer (some ⟨W.heap.size, 0, none⟩), .pointer (some ⟨W.heap.size + 2, 0, none⟩), .pointer (some ⟨W.heap.size + 1, 0, none⟩), .pointer (some ⟨W.heap.size + 3, 0, none⟩)] (fun Y => Tn (fun b => T b \/ b = W.heap.size + 2 \/ b = W.heap.size + 3) W0 Y /\ Sq Y /\ (((xs.length : Int) <= most /\ IsC Y (W.heap.size + 3) #[.bool false] /\ ∃ a c, IsC Y (W.heap.size + 2) #[.slice a xs.length c] /\ Y.ownsRow W0.heap.size 27 1 (.slice a xs.length c) xs.length (hvals xs)) \/ (most < (xs.length : Int) /\ IsC Y (W.heap.size + 3) #[.bool true]))) (enters_of Tryz.func96 (by kernel_rfl) rfl) ((callsIn_wide (n := 0)).1 hl1)
 have HT0 := hid t0
 rw [<- hW0] at hrun
 have HW0 := hid hW0
 have hmb : ¬ most < 0 := by omega
 clear hl1 t0 hy0 hRl hs hq hW0
 go_enter Tryz.func49, Tryz.ntmps49
 go_wp2_with fail
 refine hrun.mono ?_
 rintro e Y ⟨rfl, h1, h2, h3⟩
 rw [HW0.out] at h1
 have HTY := hid ((HT0.out.mono (B := T) (fun _ _ h => h.elim)).trans h1 (fun i hi h => h.elim id (fun h => by omega)))
 have HSY := hid h2
 have hn1 : ∀ b w, (Op.unary UnOp.not (.bool b)).run Tryz.prog w = .ok (.bool (!b)) w := fun b _ => by cases b <;> kernel_rfl
 clear hrun h1 h2
 rcases h3 with ⟨g1, g2, a, c, g3, g4⟩ | ⟨g1, g2⟩
 ·have c1 : Y.cell? ⟨W.heap.size + 3, 0, none⟩ = some (.bool false) := g2.cell 0
  have c2 : Y.cell? ⟨W.heap.size + 2, 0, none⟩ = some (.slice a xs.length c) := g3.cell 0
  have HO : Hid (Y.ownsRow W.heap.size 27 1 (.slice a xs.length c) xs.length (hvals xs)) := by
   rw [HW0.out] at g4
   refine ⟨g4.1, ?_⟩
   rcases g4.2 with hn | ⟨g, cap, cur, e, hb', r⟩
   ·exact .inl hn
   ·exact .inr ⟨g, cap, cur, e, Nat.le_trans HT0.out.size hb', r⟩
  clear g2 g3 g4
  go_wp2
  go_ret2
  exact ⟨HTY.out, HSY.out, .inl ⟨g1, a, c, rfl, HO.out⟩⟩
 ·have c1 : Y.cell? ⟨W.heap.size + 3, 0, none⟩ = some (.bool true) := g2.cell 0
  clear g2
  go_wp2
  go_ret2
  exact ⟨HTY.out, HSY.out, .inr ⟨g1, rfl⟩⟩
end Go.Proofs.YtjkgjckkglfokaaGreat
/- listed, in, refDoc, played. -/
namespace Go.Proofs.YtjkgjckkglfokaaGreat
open Go.RowKit Go.Shelf
open Gr (Dc Sl View WF sl par hvals allR idxH allH lst ups Lev)
set_option linter.unusedVariables false
set_option linter.unusedSimpArgs false
set_option maxRecDepth 100000
set_option maxHeartbeats 1000000
attribute [local go_sem] Oper.semAt_some
def LstP (w : World) (L : List Nat) (e : Ending) (w' : World) : Prop := ∃ a c, e = .returned (.tuple #[.slice a L.length c, .bool true]) /\ w'.ownsRow w.heap.size 27 1 (.slice a L.length c) L.length (hvals L) /\ Below w.heap.size w w'
theorem listed_any (w : World) (R : Nat -> Prop) (db : Nat) (D : Dc) (h k : Nat) (s : Sl) (k1 : 1 <= k) (k2 : k <= 11) (hv : View w R db D) (hw : WF D) (hs : sl D h = some s) (L : List Nat) (hL : ∀ W, View W R db D -> Calls Tryz.prog 27 #[.pointer (some ⟨db, 0, none⟩), .int .i64 (k : Int), .int .u64 (h : Int)] W (AlP W L)) (hl : L.length <= 4096) :
  Calls Tryz.prog 18 #[.pointer (some ⟨db, 0, none⟩), .int .i64 (k : Int), .int .u64 (h : Int)] w (LstP w L) := by
 have hax := mk_axis w R db D h k s k1 k2 hv hw hs
 have hseq := axis_seq (R := R) (db := db) (D := D) (h := h) (k := k) (s := s) hw hs hL (by omega) (d1 := w.heap.size) (d2 := w.heap.size + 2) (d3 := w.heap.size + 1)
 have hq1 : ∀ lb w, (binOp .eql 40 (.func (.func 25) #[] lb) .nilFunc).run Tryz.prog w = .ok (.bool false) w := fun _ _ => by kernel_rfl
 have HV := hid hv
 have HS : Hid _ := hseq
 have hl2 : (L.length : Int) <= 4096 := by omega
 clear hv hw hs hL hseq
 go_enter Tryz.func18, Tryz.ntmps18
 go_wp2_with fail
 refine hax.mono ?_
 rintro e w1 ⟨rfl, t1, y0, y1, y2⟩
 have hli := list_any HS.out (enters_of Tryz.func25 (by kernel_rfl) rfl) w1 ⟨HV.out.turn t1.gr (fun _ _ h => h), y0, y2, y1⟩ 4096 (by decide) (by omega)
 have HT1 := hid t1
 clear hax t1 y0 y1 y2
 go_wp2_with (first | go_quiet (fail) | fail)
 refine hli.mono ?_
 rintro e w2 ⟨t2, -, ⟨-, a, c, rfl, ho⟩ | ⟨hlt, -⟩⟩
 ·have HG : Hid (w2.ownsRow w.heap.size 27 1 (.slice a L.length c) L.length (hvals L) /\ Below w.heap.size w w2) := ⟨own_weak ho HT1.out.size, (HT1.out.trans t2 (fun _ _ h => h)).below (Nat.le_refl _) (fun _ h => h.elim)⟩
  clear hli t2 ho
  go_wp2
  go_ret2
  exact ⟨a, c, rfl, HG.out⟩
 ·omega
theorem in_any (w : World) (g : Nat) (a : Option Addr) (L : List Nat) (c x : Nat) (hd : HdsAt w g a L) (hl : L.length <= 1000000) (z : Bool) (hz : L.contains x = z) :
  Calls Tryz.prog 19 #[.slice a L.length c, .int .u64 (x : Int)] w fun e w' => e = .returned (.bool z) /\ w' = w := by
 have HC := hid hd
 have HZ := hid hz
 clear hd hz
 go_enter Tryz.func19, Tryz.ntmps19
 go_wp2
 go_loop [5] (fun i => ∃ k : Nat, k <= L.length /\ i = .int .i64 (k : Int) /\ Hid (∀ (j y : Nat), j < k -> L[j]? = some y -> y ≠ x)) (fun i => L.length - (intOf i).toNat)
 case atStart => exact ⟨0, Nat.zero_le _, rfl, fun j y hj => by omega⟩
 case round =>
  obtain ⟨k, hk, rfl, hno⟩ := hrel
  by_cases hlt : k < L.length
  ·obtain ⟨y, hy⟩ : ∃ y, L[k]? = some y := ⟨_, List.getElem?_eq_getElem hlt⟩
   obtain ⟨o, ha, hgl, hcell⟩ := HC.out k y hy
   subst ha
   by_cases he : y = x
   ·have hans : Hid (true = z) := by
     show _ = _
     rw [<- HZ.out, <- he]
     have := List.mem_of_getElem? hy
     simp [this]
    have hb : ((y : Int) == (x : Int)) = true := by simp [he]
    clear he hy HZ
    go_wp2
    go_ret
    exact ⟨congrArg _ (congrArg _ hans.out), rfl⟩
   ·have hb : ((y : Int) == (x : Int)) = false := by simp; omega
    have HY := hid hy
    have HE := hid he
    clear hy he
    go_wp2
    go_round
    case rel =>
     refine ⟨k + 1, by omega, by go_num, fun j t hj ht => ?_⟩
     by_cases e : j = k
     ·subst e
      rw [HY.out] at ht
      cases ht
      exact HE.out
     ·exact hno.out j t (by omega) ht
    case measure => simp [intOf]; omega
  ·have hans : Hid (false = z) := by
    show _ = _
    rw [<- HZ.out]
    symm
    rw [Bool.eq_false_iff]
    intro hc
    have hm : x ∈ L := by simpa using hc
    obtain ⟨j, hj⟩ := List.getElem?_of_mem hm
    exact hno.out j x (by have := (List.getElem?_eq_some_iff.1 hj).1; omega) hj rfl
   go_wp2
   go_ret
   exact ⟨congrArg _ (congrArg _ hans.out), rfl⟩
end Go.Proofs.YtjkgjckkglfokaaGreat
/- played: a document behind edits. -/
namespace Go.Proofs.YtjkgjckkglfokaaGreat
open Go.RowKit Go.Shelf
open Gr (Dc Sl View WF sl par hvals allR idxH allH lst ups Lev)
set_option linter.unusedVariables false
set_option linter.unusedSimpArgs false
set_option maxRecDepth 100000
set_option maxHeartbeats 4000000
attribute [local go_sem] Oper.semAt_some
theorem refdoc_any (w : World) : Calls Tryz.prog 48 #[] w fun e w' => e = .returned (.pointer (some ⟨w.heap.size, 0, none⟩)) /\ w' = w.alloc (.cells #[.slice none 0 0, .slice none 0 0] 68) := by
 go_enter Tryz.func48, Tryz.ntmps48
 go_wp2
 go_ret
 exact ⟨rfl, rfl⟩
def PlP (w0 : World) (e : Ending) (w' : World) : Prop := ∃ (ro : Nat -> Nat) (db : Nat) (D : Dc) (a : Option Addr) (c : Nat), e = .returned (.tuple #[.pointer (some ⟨db, 0, none⟩), .slice a (allR D).length c]) /\ WF D /\ View w' (fun b => ro b ≠ 0) db D /\ w'.ownsRow w0.heap.size 27 1 (.slice a (allR D).length c) (allR D).length (hvals (allR D)) /\ Below w0.heap.size w0 w'
theorem played_any (w0 w : World) (hb0 : Below w0.heap.size w0 w) (aa : Option Addr) (an ac : Nat) (h1 : Gr.ActsAt w0 w0.heap.size aa an) (l1 : an < 4611686018427387904) : Calls Tryz.prog 17 #[.slice aa an ac] w (PlP w0) := by
 have HA := hid h1
 have hbs := hb0.size
 have HP0 : Hid (∃ ro Q D, Gr.Pr w0 ((w.alloc (.cells #[.slice none 0 0, .slice none 0 0, .int .i64 0] 66)).alloc (.cells #[.slice none 0 0, .slice none 0 0] 68)) ro w.heap.size Q (w.heap.size + 1) D) := ⟨_, _, _, ⟨hb0.trans (((Gr.below_new' w _).alloc (by simp) _).mono hbs), Gr.start_bo w, fun b hb => by
  by_cases e : b = w.heap.size
  ·omega
  ·simp [e] at hb, by omega⟩⟩
 obtain ⟨w1, hw1⟩ : ∃ w1, w.alloc (.cells #[.slice none 0 0, .slice none 0 0, .int .i64 0] 66) = w1 := ⟨_, rfl⟩
 have HW1 := hid hw1
 have hs1 : w1.heap.size = w.heap.size + 1 := by rw [<- hw1]; simp
 rw [hw1] at HP0
 have hrd := refdoc_any w1
 rw [hs1] at hrd
 clear h1 hw1
 go_enter Tryz.func17, Tryz.ntmps17
 go_wp2_with fail
 rw [HW1.out]
 refine hrd.mono ?_
 rintro e w2 ⟨rfl, hw2⟩
 rw [<- hw2] at HP0
 clear hrd hw2 hs1
 go_wp2
 go_loopw [6] (fun iv wr => ∃ i : Nat, i <= an /\ iv = .int .i64 (i : Int) /\ Hid (∃ ro Q D, Gr.Pr w0 wr ro w.heap.size Q (w.heap.size + 1) D)) (fun iv _ => an - (intOf iv).toNat)
 case atStart => exact ⟨0, Nat.zero_le _, rfl, HP0⟩
 case round =>
  clear HP0
  obtain ⟨i, hi, rfl, HP⟩ := hrel
  obtain ⟨ro, Q, D, hpr⟩ := HP.out
  have HPR := hid hpr
  by_cases hlt : i < an
  ·obtain ⟨b, o, e, hb, k, wh, how, n, a, nm, vl, xk, xn, xa, xal, xac, xt, xka, xkl, xkc, g1, g2, g3, m, t, g4⟩ := (HA.out.below hpr.bel) i hlt
   subst e
   have hcall := hpr.does (k := k) (wh := wh) (how := how) (nm := nm) (vl := vl) g1 g2 g4
   have c0 := g3 0 (by omega)
   have c1 := g3 1 (by omega)
   have c2 := g3 2 (by omega)
   have c3 := g3 3 (by omega)
   have c4 := g3 4 (by omega)
   have c5 := g3 5 (by omega)
   have c6 := g3 6 (by omega)
   have c7 := g3 7 (by omega)
   have c8 := g3 8 (by omega)
   have c9 := g3 9 (by omega)
   have c10 := g3 10 (by omega)
   have c11 := g3 11 (by omega)
   unfold Gr.actv at hcall
   simp only [Gr.actv, Nat.add_zero, List.getElem?_toArray, List.getElem?_cons_zero, List.getElem?_cons_succ] at c0 c1 c2 c3 c4 c5 c6 c7 c8 c9 c10 c11
   have hbl : b < _ := Nat.lt_of_lt_of_le hb hpr.bel.size
   clear g3 g4 hpr HP
   go_wp2_with fail
   refine hcall.mono ?_
   intro e w2 hd
   obtain ⟨rfl, hd2⟩ := HPR.out.step hd
   have HP2 := hid hd2
   clear hd hd2 hcall c0 c1 c2 c3 c4 c5 c6 c7 c8 c9 c10 c11
   go_wp2
   go_roundw
   case rel => exact ⟨i + 1, by omega, by go_num, HP2⟩
   case measure => simp [intOf]; omega
  ·have hall := Gr.pall_zero _ _ w.heap.size D hpr.bo.p.view hpr.bo.wf
   clear hpr HP HA
   go_wp2_with fail
   refine hall.mono ?_
   rintro e w3 ⟨a, c, rfl, ho, hb⟩
   have HG : Hid (WF D /\ View w3 (fun b => ro b ≠ 0) w.heap.size D /\ w3.ownsRow w0.heap.size 27 1 (.slice a (allR D).length c) (allR D).length (hvals (allR D)) /\ Below w0.heap.size w0 w3) := ⟨HPR.out.bo.wf, HPR.out.bo.p.view.below hb, own_weak ho HPR.out.bel.size, HPR.out.bel.trans (hb.mono HPR.out.bel.size)⟩
   clear hall ho hb HPR
   go_wp2
   go_ret2
   exact ⟨ro, w.heap.size, D, a, c, rfl, HG.out⟩
end Go.Proofs.YtjkgjckkglfokaaGreat
/- The document's first example: lives. -/
namespace Go.Proofs.YtjkgjckkglfokaaGreat
open Go.RowKit Go.Shelf
open Gr (Dc Sl View WF sl par hvals allR idxH T Nd TreeAt insE insD PDoc lst)
set_option linter.unusedVariables false
set_option linter.unusedSimpArgs false
set_option maxRecDepth 100000
set_option maxHeartbeats 2000000
attribute [local go_sem] Oper.semAt_some
def D0 : Dc := ⟨[], []⟩
theorem sl_D0 (h : Nat) : sl D0 h = none := by
 cases e : sl D0 h with
 | none => rfl
 | some s =>
  obtain ⟨i, -, h2, -⟩ := Gr.sl_live e
  simp [D0] at h2
theorem lst_D0 (p : Nat) : lst D0 p = [] := by
 by_cases h : p = 0
 ·subst h; rfl
 ·simp [lst, h, sl_D0]
theorem wf_D0 : WF D0 := by
 refine ⟨⟨by simp [D0], fun i s h => by simp [D0] at h⟩, fun i s h => by simp [D0] at h, fun i s h => by simp [D0] at h, fun i s h => by simp [D0] at h, fun i s h => by simp [D0] at h, ⟨fun _ => 0, fun h s e => (by rw [sl_D0] at e; cases e)⟩, fun h s e => (by rw [sl_D0] at e; cases e), fun p _ h hh => (by rw [lst_D0] at hh; cases hh), fun p => (by rw [lst_D0]; exact List.nodup_nil)⟩
theorem pdoc_new (w : World) : PDoc (w.alloc (.cells #[.slice none 0 0, .slice none 0 0, .int .i64 0] 66)) (fun b => if b = w.heap.size then 1 else 0) w.heap.size D0 :=
 ⟨none, 0, none, 0, [], Gr.isCells_new w _ _, Gr.own_nil _ _ _ _, Gr.own_nil _ _ _ _, rfl, fun i s p h => by simp [D0] at h, by simp, fun b h => by simp [Value.ownBlock] at h, fun b h => by simp [Value.ownBlock] at h, fun i p b h => by simp at h, fun i p b h => by simp at h, fun b hb => by
  by_cases e : b = w.heap.size
  ·subst e; simp
  ·simp [e] at hb⟩
def nod {n : Nat} (c : UInt8) (ks : List (T n)) : T (n + 1) := ({ kind := 1, name := ⟨#[c]⟩, attrs := [], text := ⟨#[]⟩, kids := ks } : Nd (T n))
def tA : T 3 := nod 97 [nod 98 [], nod 99 [nod 100 []], nod 101 []]
def D1 : Dc := (insD D0 2 0 3 tA).1
theorem d1_ins : insE D0 2 0 3 tA = 0 := by kernel_rfl
theorem d1_h : (insD D0 2 0 3 tA).2 = 4294967297 := by kernel_rfl
theorem d1_all : allR D1 = [4294967297, 4294967298, 4294967299, 4294967300, 4294967301] := by kernel_rfl
theorem d1_sl : (sl D1 4294967301).isSome = true := by kernel_rfl
theorem d1_ahead : ahead D1 4294967301 4 = [4294967300, 4294967299, 4294967298] := by kernel_rfl
theorem wf_D1 : WF D1 := wf_D0.insD 2 0 3 tA
def nv (c : UInt8) (k : Value) : Array Value := #[.int .i64 1, .string ⟨#[c]⟩, .slice none 0 0, .string ⟨#[]⟩, k]
theorem nod_at {w : World} {lo hi n : Nat} (c : UInt8) : TreeAt w lo hi (n + 1) (nv c (.slice none 0 0)) (nod c []) :=
 ⟨none, 0, none, 0, rfl, Nat.zero_le _, Nat.zero_le _, Nat.le_refl _, Nat.le_refl _, fun i p h => by simp [nod] at h, fun i k h => by simp [nod] at h⟩
theorem leaf_any (w : World) (s : ByteArray) (a : Option Addr) (n c : Nat) : Calls Tryz.prog 45 #[.string s, .slice a n c] w fun e w' => e = .returned (.agg #[.int .i64 1, .string s, .slice none 0 0, .string ⟨#[]⟩, .slice a n c]) /\ Below w.heap.size w w' := by
 go_enter Tryz.func45, Tryz.ntmps45
 go_wp2
 have hc := Gr.isCells_new w #[.int .i64 1, .string s, .slice none 0 0, .string ⟨#[]⟩, .slice a n c] 31
 have r0 := hc.cell 0
 have r1 := hc.cell 1
 have r2 := hc.cell 2
 have r3 := hc.cell 3
 have r4 := hc.cell 4
 simp only [List.getElem?_toArray, List.getElem?_cons_zero, List.getElem?_cons_succ] at r0 r1 r2 r3 r4
 exact bodyPost_ret (v := .agg #[.int .i64 1, .string s, .slice none 0 0, .string ⟨#[]⟩, .slice a n c]) (by simp [results, Tryz.results45, go_sem, r0, r1, r2, r3, r4]) rfl ⟨rfl, (Below.refl _ _).alloc (Nat.le_refl _) _⟩
theorem nod_kids {w : World} {lo hi n g : Nat} {c : UInt8} {ks : List (T n)} {vs : List (Array Value)} {cap : Nat} (hv : vs.length = ks.length) (hs : ∀ v ∈ vs, v.size = 5) (hg : Gr.IsCells w g (vs.flatMap (·.toList)).toArray) (h1 : lo <= g) (h2 : g < hi) (hl : ks.length <= 1000) (hc : ks.length <= cap)
  (hk : ∀ (i : Nat) (v : Array Value) (k : T n), vs[i]? = some v -> ks[i]? = some k -> TreeAt w lo hi n v k) : TreeAt w lo hi (n + 1) (nv c (.slice (some ⟨g, 0, none⟩) ks.length cap)) (nod c ks) := by
 refine ⟨none, 0, some ⟨g, 0, none⟩, cap, rfl, Nat.zero_le _, by show ks.length <= _; unfold Gr.maxK; omega, Nat.le_refl _, hc, fun i p h => by simp [nod] at h, fun i k hik => ?_⟩
 have hik' : ks[i]? = some k := hik
 have hi : i < ks.length := (List.getElem?_eq_some_iff.1 hik').1
 have hvi : vs[i]? = some vs[i] := List.getElem?_eq_getElem (by omega)
 refine ⟨g, 0, vs[i], rfl, h1, h2, hs _ (List.getElem_mem _), fun j hj => ?_, hk i _ k hvi hik'⟩
 rw [hg.cell]
 have key : ∀ (l : List (Array Value)) (m : Nat) (u : Array Value), (∀ v ∈ l, v.size = 5) -> l[m]? = some u -> (l.flatMap (·.toList))[m * 5 + j]? = u[j]? := by
  intro l
  induction l with
  | nil => intro m u _ h; simp at h
  | cons a r ih =>
   intro m u hs h
   have ha : a.toList.length = 5 := by simpa using hs a (List.mem_cons_self ..)
   rw [List.flatMap_cons]
   cases m with
   | zero =>
    simp only [List.getElem?_cons_zero, Option.some.injEq] at h
    subst h
    rw [Nat.zero_mul, Nat.zero_add, List.getElem?_append_left (by omega)]
    simp
   | succ m =>
    rw [List.getElem?_append_right (by omega), ha, show (m + 1) * 5 + j - 5 = m * 5 + j by omega]
    exact ih m u (fun v hv => hs v (List.mem_cons_of_mem _ hv)) (by simpa using h)
 have := key vs i vs[i] hs hvi
 simpa using this
theorem lives_any (w : World) : Calls Tryz.prog 16 #[] w fun e w' => e = .returned (.bool true) /\ Below w.heap.size w w' := by
 obtain ⟨w1, hw1⟩ : ∃ w1, w.alloc (.cells #[.slice none 0 0, .slice none 0 0, .int .i64 0] 66) = w1 := ⟨_, rfl⟩
 have HW1 := hid hw1
 have hp := pdoc_new w
 rw [hw1] at hp
 have HP := hid hp
 have hs1 : w1.heap.size = w.heap.size + 1 := by rw [<- hw1]; simp
 have HS1 := hid hs1
 have HB1 : Hid (Below w.heap.size w w1) := by show Below _ _ _; rw [<- hw1]; exact (Below.refl _ _).alloc (Nat.le_refl _) _
 clear hw1 hp hs1
 go_enter Tryz.func16, Tryz.ntmps16
 go_wp2_with fail
 rw [HW1.out]
 refine Calls.mono (leaf_any w1 ⟨#[98]⟩ none 0 0) ?_
 rintro e w2 ⟨rfl, hb2⟩
 have HB2 := hid hb2
 clear hb2
 go_wp2_with fail
 refine Calls.mono (leaf_any w2 ⟨#[100]⟩ none 0 0) ?_
 rintro e w3 ⟨rfl, hb3⟩
 have HB3 := hid hb3
 clear hb3
 obtain ⟨w4, hw4⟩ : ∃ w4, w3.alloc (.cells #[.int .i64 1, .string ⟨#[100]⟩, .slice none 0 0, .string ⟨#[]⟩, .slice none 0 0] 31) = w4 := ⟨_, rfl⟩
 have HW4 := hid hw4
 have HC4 : Hid (Gr.IsCells w4 w3.heap.size (nv 100 (.slice none 0 0)) /\ Below w3.heap.size w3 w4 /\ w3.heap.size < w4.heap.size) := by
  have hh := Gr.isCells_new w3 (nv 100 (.slice none 0 0)) 31
  unfold nv at hh ⊢
  rw [hw4] at hh
  exact ⟨hh, by rw [<- hw4]; exact (Below.refl _ _).alloc (Nat.le_refl _) _, hh.lt⟩
 clear hw4
 go_wp2_with fail
 rw [HW4.out]
 refine Calls.mono (leaf_any w4 ⟨#[99]⟩ (some ⟨w3.heap.size, 0, none⟩) 1 1) ?_
 rintro e w5 ⟨rfl, hb5⟩
 have HB5 := hid hb5
 clear hb5
 go_wp2_with fail
 refine Calls.mono (leaf_any w5 ⟨#[101]⟩ none 0 0) ?_
 rintro e w6 ⟨rfl, hb6⟩
 have HB6 := hid hb6
 clear hb6
 obtain ⟨w7, hw7⟩ : ∃ w7, w6.alloc (.cells #[.int .i64 1, .string ⟨#[98]⟩, .slice none 0 0, .string ⟨#[]⟩, .slice none 0 0, .int .i64 1, .string ⟨#[99]⟩, .slice none 0 0, .string ⟨#[]⟩, .slice (some ⟨w3.heap.size, 0, none⟩) 1 1, .int .i64 1, .string ⟨#[101]⟩, .slice none 0 0, .string ⟨#[]⟩, .slice none 0 0] 31) = w7 := ⟨_, rfl⟩
 have HW7 := hid hw7
 have HC7 : Hid (Gr.IsCells w7 w6.heap.size ([nv 98 (.slice none 0 0), nv 99 (.slice (some ⟨w3.heap.size, 0, none⟩) 1 1), nv 101 (.slice none 0 0)].flatMap (·.toList)).toArray /\ Below w6.heap.size w6 w7 /\ w6.heap.size < w7.heap.size) := by
  have hh := Gr.isCells_new w6 #[.int .i64 1, .string ⟨#[98]⟩, .slice none 0 0, .string ⟨#[]⟩, .slice none 0 0, .int .i64 1, .string ⟨#[99]⟩, .slice none 0 0, .string ⟨#[]⟩, .slice (some ⟨w3.heap.size, 0, none⟩) 1 1, .int .i64 1, .string ⟨#[101]⟩, .slice none 0 0, .string ⟨#[]⟩, .slice none 0 0] 31
  rw [hw7] at hh
  exact ⟨hh, by rw [<- hw7]; exact (Below.refl _ _).alloc (Nat.le_refl _) _, hh.lt⟩
 clear hw7
 go_wp2_with fail
 rw [HW7.out]
 refine Calls.mono (leaf_any w7 ⟨#[97]⟩ (some ⟨w6.heap.size, 0, none⟩) 3 3) ?_
 rintro e w8 ⟨rfl, hb8⟩
 have b48 : Below w4.heap.size w4 w8 := by
  have h1 := HB5.out.trans (HB6.out.mono HB5.out.size)
  have h2 := h1.trans (HC7.out.2.1.mono h1.size)
  exact h2.trans (hb8.mono h2.size)
 have b78 : Below w7.heap.size w7 w8 := hb8
 have b18 : Below w1.heap.size w1 w8 := by
  have h1 := HB2.out.trans (HB3.out.mono HB2.out.size)
  have h2 := h1.trans (HC4.out.2.1.mono h1.size)
  exact h2.trans (b48.mono h2.size)
 have hz3 : w1.heap.size <= w3.heap.size := Nat.le_trans HB2.out.size HB3.out.size
 have hz4 : w3.heap.size < w4.heap.size := HC4.out.2.2
 have hz6 : w4.heap.size <= w6.heap.size := Nat.le_trans HB5.out.size HB6.out.size
 have hz7 : w6.heap.size < w7.heap.size := HC7.out.2.2
 have hz8 : w7.heap.size <= w8.heap.size := b78.size
 have k3 : Gr.IsCells w8 w3.heap.size (nv 100 (.slice none 0 0)) := HC4.out.1.of_block (b48.block _ hz4)
 have k6 : Gr.IsCells w8 w6.heap.size ([nv 98 (.slice none 0 0), nv 99 (.slice (some ⟨w3.heap.size, 0, none⟩) 1 1), nv 101 (.slice none 0 0)].flatMap (·.toList)).toArray := HC7.out.1.of_block (b78.block _ hz7)
 have htree : TreeAt w8 w1.heap.size w8.heap.size 3 (nv 97 (.slice (some ⟨w6.heap.size, 0, none⟩) 3 3)) tA := by
  refine nod_kids (ks := [nod 98 [], nod 99 [nod 100 []], nod 101 []]) (vs := [nv 98 (.slice none 0 0), nv 99 (.slice (some ⟨w3.heap.size, 0, none⟩) 1 1), nv 101 (.slice none 0 0)]) rfl (by simp [nv]) k6 (by omega) (by omega) (by simp) (Nat.le_refl _) ?_
  intro i v k hv hk
  match i, hv, hk with
  | 0, hv, hk =>
   cases hv; cases hk
   exact nod_at 98
  | 1, hv, hk =>
   cases hv; cases hk
   refine nod_kids (ks := [nod 100 []]) (vs := [nv 100 (.slice none 0 0)]) rfl (by simp [nv]) (by simpa using k3) (by omega) (by omega) (by simp) (Nat.le_refl _) ?_
   intro i v k hv hk
   match i, hv, hk with
   | 0, hv, hk =>
    cases hv; cases hk
    exact nod_at 100
   | i + 1, hv, hk => simp at hv
  | 2, hv, hk =>
   cases hv; cases hk
   exact nod_at 101
  | i + 3, hv, hk => simp at hv
 have hins := Gr.pins_any 3 w8 _ tA w1.heap.size w8.heap.size (fun b => if b = w.heap.size then 1 else 0) w.heap.size 0 2 D0 htree (Nat.le_refl _) (fun b hb h => by
  have hs := HS1.out
  by_cases e : b = w.heap.size
  ·omega
  ·simp [e] at hb) (HP.out.turn (A := fun _ => False) ⟨b18.os, b18.tape, b18.output, b18.size, fun k hk _ => b18.block k hk⟩ (fun _ _ h => h)) wf_D0 (by decide)
 rw [d1_h, d1_ins] at hins
 have HB8 := hid (HB1.out.trans (b18.mono HB1.out.size))
 clear b48 b78 b18 hz3 hz4 hz6 hz7 hz8 k3 k6 htree hb8
 unfold nv at hins
 go_wp2_with fail
 refine Calls.mono hins ?_
 rintro e w9 ⟨rfl, ht9, ro', hd9, -⟩
 have hv9 : View w9 (fun b => ro' b ≠ 0) w.heap.size D1 := hd9.view
 have HB9 : Hid (Below w.heap.size w w9) := HB8.out.trans (ht9.below (B := w.heap.size) HB8.out.size (fun k hk => by
  by_cases e : k = w.heap.size
  ·omega
  ·simp [e] at hk))
 obtain ⟨h1, g1⟩ : ∃ h : Nat, h = 4294967297 := ⟨_, rfl⟩
 obtain ⟨h2, g2⟩ : ∃ h : Nat, h = 4294967298 := ⟨_, rfl⟩
 obtain ⟨h3, g3⟩ : ∃ h : Nat, h = 4294967299 := ⟨_, rfl⟩
 obtain ⟨h4, g4⟩ : ∃ h : Nat, h = 4294967300 := ⟨_, rfl⟩
 obtain ⟨h5, g5⟩ : ∃ h : Nat, h = 4294967301 := ⟨_, rfl⟩
 have eall : allR D1 = [h1, h2, h3, h4, h5] := by rw [d1_all, g1, g2, g3, g4, g5]
 have eah : ahead D1 h5 4 = [h4, h3, h2] := by rw [g5, d1_ahead, g2, g3, g4]
 have eix : idxH (allR D1) h5 = ((4 : Nat) : Int) := by rw [d1_all, g5]; decide
 obtain ⟨s5, es5⟩ : ∃ s, sl D1 h5 = some s := by rw [g5]; exact Option.isSome_iff_exists.1 d1_sl
 clear g1 g2 g3 g4 g5
 have hal := Gr.pall_zero w9 _ w.heap.size D1 hv9 wf_D1
 unfold Gr.AllP at hal
 rw [eall] at hal
 simp only [List.length_cons, List.length_nil, Nat.reduceAdd] at hal
 have HV9 : Hid (View w9 (fun b => ro' b ≠ 0) w.heap.size D1 /\ allR D1 = [h1, h2, h3, h4, h5] /\ ahead D1 h5 4 = [h4, h3, h2] /\ idxH (allR D1) h5 = ((4 : Nat) : Int) /\ sl D1 h5 = some s5) := ⟨hv9, eall, eah, eix, es5⟩
 clear ht9 hd9 hv9 hins eall eah eix es5
 go_wp2_with fail
 refine Calls.mono hal ?_
 rintro e w10 ⟨a, cap, rfl, ho, hb10⟩
 obtain ⟨g, rfl, hg1, hg2, hcap, hd, -⟩ := row_hands (L := [h1, h2, h3, h4, h5]) (n := 5) ho rfl (by decide)
 have hc : ∀ (i x : Nat), [h1, h2, h3, h4, h5][i]? = some x -> w10.cell? ⟨g, i, none⟩ = some (.int .u64 (x : Int)) := fun i x hx => by
  obtain ⟨o, e, -, q⟩ := hd i x hx
  cases e
  rw [Nat.zero_add] at q
  exact q
 have c1 := hc 1 h2 rfl
 have c2 := hc 2 h3 rfl
 have c3 := hc 3 h4 rfl
 have c4 := hc 4 h5 rfl
 have hv10 := HV9.out.1.below hb10
 have HB10 := hid (HB9.out.trans (hb10.mono HB9.out.size))
 have hax := mk_axis w10 _ w.heap.size D1 h5 8 s5 (by omega) (by omega) hv10 wf_D1 HV9.out.2.2.2.2
 have HV10 := hid hv10
 clear ho hb10 hd hc hv10 hal
 go_wp2_with fail
 refine Calls.mono hax ?_
 rintro e w11 ⟨rfl, t11, y0, y1, y2⟩
 have d1 : w11.cell? ⟨g, 1, none⟩ = some (.int .u64 (h2 : Int)) := (World.cell?_of_block (w := w10) (a := ⟨g, 1, none⟩) (t11.block g hg2 id)).trans c1
 have d2 : w11.cell? ⟨g, 2, none⟩ = some (.int .u64 (h3 : Int)) := (World.cell?_of_block (w := w10) (a := ⟨g, 2, none⟩) (t11.block g hg2 id)).trans c2
 have d3 : w11.cell? ⟨g, 3, none⟩ = some (.int .u64 (h4 : Int)) := (World.cell?_of_block (w := w10) (a := ⟨g, 3, none⟩) (t11.block g hg2 id)).trans c3
 have hgl : g < w11.heap.size := Nat.lt_of_lt_of_le hg2 t11.size
 have HY : Hid (Tn (fun _ => False) w10 w11 /\ IsC w11 w10.heap.size #[.pointer (some ⟨w.heap.size, 0, none⟩)] /\ IsC w11 (w10.heap.size + 1) #[.int .i64 8] /\ IsC w11 (w10.heap.size + 2) #[.int .u64 (h5 : Int)]) := ⟨t11, y0, y1, y2⟩
 clear t11 y0 y1 y2 c1 c2 c3 c4 hax
 obtain ⟨w12, hw12⟩ : ∃ w12, (w11.alloc (.cells #[.int .u64 (h4 : Int), .int .u64 (h3 : Int), .int .u64 (h2 : Int)] 27)).drew = w12 := ⟨_, rfl⟩
 have HW12 := hid hw12
 have t12 : Tn (fun _ => False) w11 w12 := by rw [<- hw12]; exact ((Tn.refl _ _).alloc _).drew
 have hcs : IsC w12 w11.heap.size #[.int .u64 (h4 : Int), .int .u64 (h3 : Int), .int .u64 (h2 : Int)] := by rw [<- hw12]; exact isC_new w11 _ 27
 have hwant : HdsAt w12 w11.heap.size (some ⟨w11.heap.size, 0, none⟩) [h4, h3, h2] := fun i x hx => by
  refine ⟨0, rfl, hcs.lt, ?_⟩
  rw [Nat.zero_add, hcs.cell]
  match i, hx with
  | 0, hx => cases hx; rfl
  | 1, hx => cases hx; rfl
  | 2, hx => cases hx; rfl
  | i + 3, hx => simp at hx
 have t1012 : Tn (fun _ => False) w10 w12 := HY.out.1.trans t12 (fun _ _ h => h)
 have hseq := axis_seq (R := fun b => ro' b ≠ 0) (db := w.heap.size) (D := D1) (h := h5) (k := 8) (s := s5) wf_D1 HV9.out.2.2.2.2 (L := [h4, h3, h2]) (fun W hvW => along_prec W _ _ D1 h5 4 s5 hvW wf_D1 HV9.out.2.2.2.2 HV9.out.2.2.2.1 (by rw [HV9.out.2.1]; simp) _ HV9.out.2.2.1) (by simp) (d1 := w10.heap.size) (d2 := w10.heap.size + 2) (d3 := w10.heap.size + 1)
 have hgo := goes_any hseq (enters_of Tryz.func25 (by kernel_rfl) rfl) w12 ⟨HV10.out.turn t1012.gr (fun _ _ h => h), HY.out.2.1.tn t12 id, HY.out.2.2.2.tn t12 id, HY.out.2.2.1.tn t12 id⟩ (some ⟨w11.heap.size, 0, none⟩) 3 w11.heap.size hwant (fun _ h => h) (by simp)
 simp only [List.length_cons, List.length_nil, Nat.reduceAdd] at hgo
 have HB12 := hid (HB10.out.trans (t1012.below HB10.out.size (fun _ h => h.elim)))
 clear hw12 t12 hcs hwant t1012 hseq
 go_wp2_with (first | go_region | fail)
 rw [HW12.out]
 refine Calls.mono (callsIn_wide.1 hgo) ?_
 rintro e w13 ⟨rfl, t13, -⟩
 have HB13 := hid (HB12.out.trans (t13.below HB12.out.size (fun _ h => h.elim)))
 clear t13 hgo
 go_wp2
 go_ret
 exact ⟨rfl, HB13.out⟩
end Go.Proofs.YtjkgjckkglfokaaGreat
