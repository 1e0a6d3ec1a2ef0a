/- The axes of WalkTurned besides: row, siblings, slices.Reverse; along at 1, 3, 4, 6, 9, 10. -/
import Derived.Test.YtjkgjckkglfokaaGreatU27
import Derived.Test.YtjkgjckkglfokaaGreatU11
namespace Go.Proofs.YtjkgjckkglfokaaGreat
open Go.RowKit Go.Shelf
open Gr (Dc Sl View WF sl par hvals allR idxH allH lst ups Lev)
set_option linter.unusedVariables false
set_option linter.unusedSimpArgs false
set_option maxRecDepth 100000
set_option maxHeartbeats 1000000
attribute [local go_sem] Oper.semAt_some
theorem row_any (w : World) (R : Nat -> Prop) (db : Nat) (D : Dc) (p : Nat) (hv : View w R db D) (hw : WF D) (hp : p = 0 \/ ∃ s, sl D p = some s) :
  Calls Tryz.prog 62 #[.pointer (some ⟨db, 0, none⟩), .int .u64 (p : Int)] w (MkP w (lst D p)) := by
 by_cases h0 : p = 0
 ·subst h0
  have hr := Gr.proots_any w R db D hv (by have := (Gr.roots_len hw).1; omega)
  rw [show lst D 0 = D.roots from rfl]
  clear hv hw hp
  go_enter Tryz.func62, Tryz.ntmps62
  go_wp2_with fail
  refine hr.mono ?_
  rintro e w1 ⟨a, c, rfl, ho, hb⟩
  have HB : Hid (w1.ownsRow w.heap.size 27 1 (.slice a D.roots.length c) D.roots.length (hvals D.roots) /\ Below w.heap.size w w1) := ⟨ho, hb⟩
  clear hr ho hb
  go_wp2
  go_ret
  exact ⟨a, c, rfl, HB.out⟩
 ·obtain ⟨s, hs⟩ : ∃ s, sl D p = some s := hp.resolve_left h0
  obtain ⟨i, ha, hsi, -⟩ := Gr.sl_live hs
  have hl : lst D p = s.kids := by simp [lst, h0, hs]
  have hkl := Gr.lst_len hw (.inr ⟨s, hs⟩)
  rw [hl] at hkl ⊢
  have hk := Gr.pkids_some w R db D p i s hv hw.fits (hw.lt hs).1 ha hsi (by omega)
  have hz : ((p : Int) == 0) = false := by rw [beq_eq_false_iff_ne]; omega
  clear hv hw hp hs ha hsi hl h0
  go_enter Tryz.func62, Tryz.ntmps62
  go_wp2_with fail
  refine hk.mono ?_
  rintro e w1 ⟨a, c, rfl, ho, hb⟩
  have HB : Hid (w1.ownsRow w.heap.size 27 1 (.slice a s.kids.length c) s.kids.length (hvals s.kids) /\ Below w.heap.size w w1) := ⟨ho, hb⟩
  clear hk ho hb
  go_wp2
  go_ret
  exact ⟨a, c, rfl, HB.out⟩
def SibP (w : World) (X Y : List Nat) (e : Ending) (w' : World) : Prop := ∃ (g : Nat) (c : Nat) (a2 : Option Addr) (c2 : Nat) (cur : Array Value), e = .returned (.tuple #[.slice (some ⟨g, 0, none⟩) X.length c, .slice a2 Y.length c2]) /\ w.heap.size <= g /\ IsC w' g cur /\ (∀ (i x : Nat), X[i]? = some x -> cur[i]? = some (.int .u64 (x : Int))) /\ X.length <= c /\ HdsAt w' g a2 Y /\ Y.length <= c2 /\ Below w.heap.size w w'
theorem row_cur {w : World} {N n c : Nat} {a : Option Addr} {xs : List Value} (h : w.ownsRow N 27 1 (.slice a n c) n xs) (h0 : 0 < n) : ∃ g cur, a = some ⟨g, 0, none⟩ /\ N <= g /\ IsC w g cur /\ ∀ (i : Nat) (u : Value), xs[i]? = some u -> cur[i]? = some u := by
 obtain ⟨-, h2, h3⟩ := Gr.row_cell h
 rcases h.2 with ⟨h4, h5⟩ | ⟨g, cap, cur, e, h4, h5, -⟩
 ·omega
 ·cases e
  refine ⟨g, cur, rfl, h4, ⟨_, h5⟩, fun i u hu => ?_⟩
  obtain ⟨g', e', -, -, hc⟩ := h3 i u hu
  cases e'
  rwa [IsC.cell ⟨_, h5⟩] at hc
theorem siblings_any (w : World) (R : Nat -> Prop) (db : Nat) (D : Dc) (h : Nat) (s : Sl) (hv : View w R db D) (hw : WF D) (hs : sl D h = some s) (X Y : List Nat) (hXY : lst D s.parent = X ++ h :: Y) :
  Calls Tryz.prog 67 #[.pointer (some ⟨db, 0, none⟩), .int .u64 (h : Int)] w (SibP w X Y) := by
 obtain ⟨lv, hl⟩ := hw.lev
 have hp : s.parent = 0 \/ ∃ q, sl D s.parent = some q := (hl.par hs).imp (·.1) (fun ⟨p, h, _⟩ => ⟨p, h⟩)
 have hab := above_live w R db D h s hv hw hs
 rw [show par D h = s.parent by simp [par, hs]] at hab
 have hrow : ∀ W, View W R db D -> Calls Tryz.prog 62 #[.pointer (some ⟨db, 0, none⟩), .int .u64 (s.parent : Int)] W (MkP W (X ++ h :: Y)) := fun W hvW => by rw [<- hXY]; exact row_any W R db D s.parent hvW hw hp
 have hnd := hw.nodup s.parent
 rw [hXY] at hnd
 have hlen := Gr.lst_len hw hp
 rw [hXY] at hlen
 have HV : Hid (View w R db D) := hv
 have HR : Hid _ := hrow
 have HI : Hid (idxH (X ++ h :: Y) h = (X.length : Int)) := idx_app hnd
 have hsum : (X ++ h :: Y).length = X.length + Y.length + 1 := by simp; omega
 clear hv hw hs hXY hl hp hnd hrow
 go_enter Tryz.func67, Tryz.ntmps67
 go_wp2_with fail
 refine hab.mono ?_
 rintro e w1 ⟨rfl, hb1⟩
 have hr := HR.out w1 (HV.out.below hb1)
 unfold MkP at hr
 have HB1 : Hid (Below w.heap.size w w1) := hb1
 clear hab hb1
 go_wp2_with fail
 refine hr.mono ?_
 rintro e w2 ⟨a, c, rfl, ho, hb2⟩
 obtain ⟨g, rfl, hg1, hg2, hcap, hd1, hh1⟩ := row_hands ho rfl (by omega)
 obtain ⟨g', cur, e', -, hcu, hcv⟩ := row_cur ho (by omega)
 cases e'
 have hix := Gr.index_any w2 (fun b => b = g) (some ⟨g, 0, none⟩) (X ++ h :: Y) c h hh1 (by omega) (X.length : Int) HI.out
 have hws := HB1.out.size
 have HG : Hid (w.heap.size <= g /\ IsC w2 g cur /\ (∀ (i x : Nat), X[i]? = some x -> cur[i]? = some (.int .u64 (x : Int))) /\ HdsAt w2 g (some ⟨g, X.length + 1, none⟩) Y /\ Below w.heap.size w w2) := by
  refine ⟨by omega, hcu, fun i x hx => hcv i _ ?_, ?_, HB1.out.trans (hb2.mono hws)⟩
  ·have hi := (List.getElem?_eq_some_iff.1 hx).1
   unfold Gr.hvals
   rw [List.getElem?_map, List.getElem?_append_left hi, hx]; rfl
  ·have := hd1.drop (X.length + 1)
   rw [Nat.zero_add, show (X ++ h :: Y).drop (X.length + 1) = Y by simp] at this
   exact this
 rw [hsum] at hix hcap hlen ⊢
 have e0 : (0 : Int) <= (X.length : Int) := by omega
 have e1 : (X.length : Int) <= (c : Int) := by omega
 have e2 : (X.length : Int).toNat = X.length := by omega
 have e3 : (0 : Int) <= (X.length : Int) + 1 := by omega
 have e4 : (X.length : Int) + 1 <= ((X.length + Y.length + 1 : Nat) : Int) := by omega
 have e5 : ((X.length : Int) + 1).toNat = X.length + 1 := by omega
 have e6 : X.length + Y.length + 1 - (X.length + 1) = Y.length := by omega
 generalize hLX : X.length = lx at *
 generalize hLY : Y.length = ly at *
 have HLX : Hid (X.length = lx /\ Y.length = ly) := ⟨hLX, hLY⟩
 clear ho hb2 hd1 hh1 hcu hcv hr hsum hLX hLY
 go_wp2_with (first | go_quiet (fail) | fail)
 refine hix.mono ?_
 rintro e w' ⟨rfl, rfl⟩
 clear hix
 go_wp2_with (first | go_quiet (fail) | fail)
 case inl hc =>
  go_ret2
  have hy : Y = [] := List.length_eq_zero_iff.1 (by have := HLX.out.2; omega)
  have hy0 : ly = 0 := by rw [<- HLX.out.2, hy]; rfl
  refine ⟨g, lx + 1, some ⟨g, 0, none⟩, 0, cur, ?_, HG.out.1, HG.out.2.1, HG.out.2.2.1, by rw [HLX.out.1]; omega, by rw [hy]; exact fun i x hx => by simp at hx, by rw [hy]; exact Nat.le_refl _, below_drewN HG.out.2.2.2.2 _⟩
  rw [HLX.out.1, HLX.out.2]
  rfl
 case inr hc =>
  go_ret2
  refine ⟨g, c, some ⟨g, lx + 1, none⟩, c - (lx + 1), cur, ?_, HG.out.1, HG.out.2.1, HG.out.2.2.1, by rw [HLX.out.1]; omega, HG.out.2.2.2.1, by rw [HLX.out.2]; omega, below_drewN HG.out.2.2.2.2 _⟩
  rw [HLX.out.1, HLX.out.2]
  rfl
theorem isC_set {w : World} {g i : Nat} {cu : Array Value} (h : IsC w g cu) (v : Value) : IsC (w.setCell ⟨g, i, none⟩ v) g (cu.setIfInBounds i v) := by
 obtain ⟨t, ht⟩ := h
 refine ⟨t, ?_⟩
 simp [World.setCell, Array.getElem?_modify, ht]
theorem reverse_any (w : World) (g n cap : Nat) (X : List Nat) (cur : Array Value) (hX : X.length = n) (hcu : IsC w g cur) (hcv : ∀ (i x : Nat), X[i]? = some x -> cur[i]? = some (.int .u64 (x : Int))) (hl : n <= 1000000) (hcap : n <= cap) :
  Calls Tryz.prog 68 #[.slice (some ⟨g, 0, none⟩) n cap] w fun e w' => e = .returned (.tuple #[]) /\ Tn (fun b => b = g) w w' /\ HdsAt w' g (some ⟨g, 0, none⟩) X.reverse := by
 have HX : Hid (X.length = n) := hX
 have HS : Hid (∃ (M : List Nat) (cu : Array Value), M.length = n /\ (∀ t, t < n -> M[t]? = if t < 0 \/ n - 0 <= t then X[n - 1 - t]? else X[t]?) /\ IsC w g cu /\ (∀ (i x : Nat), M[i]? = some x -> cu[i]? = some (.int .u64 (x : Int))) /\ Tn (fun b => b = g) w w) := ⟨X, cur, hX, fun t ht => by rw [if_neg (by omega)], hcu, hcv, Tn.refl _ _⟩
 clear hX hcu hcv
 go_enter Tryz.func68, Tryz.ntmps68
 go_wp2
 go_loopw [2, 3] (fun iv jv wr => ∃ k : Nat, 2 * k <= n /\ iv = .int .i64 (k : Int) /\ jv = .int .i64 ((n : Int) - 1 - (k : Int)) /\ Hid (∃ (M : List Nat) (cu : Array Value), M.length = n /\ (∀ t, t < n -> M[t]? = if t < k \/ n - k <= t then X[n - 1 - t]? else X[t]?) /\ IsC wr g cu /\ (∀ (i x : Nat), M[i]? = some x -> cu[i]? = some (.int .u64 (x : Int))) /\ Tn (fun b => b = g) w wr)) (fun iv jv _ => n - (intOf iv).toNat)
 case atStart => exact ⟨0, by omega, rfl, by simp, HS⟩
 case round =>
  clear HS
  obtain ⟨k, hk, rfl, rfl, HM⟩ := hrel
  obtain ⟨M, cu, m1, m2, m3, m4, m5⟩ := HM.out
  by_cases hlt : 2 * k + 1 < n
  ·obtain ⟨m, hm⟩ : ∃ m : Nat, m = n - 1 - k := ⟨_, rfl⟩
   have hmi : (n : Int) - 1 - (k : Int) = (m : Int) := by omega
   rw [hmi]
   obtain ⟨x, hx⟩ : ∃ x, M[k]? = some x := ⟨_, List.getElem?_eq_getElem (by omega)⟩
   obtain ⟨y, hy⟩ : ∃ y, M[m]? = some y := ⟨_, List.getElem?_eq_getElem (by omega)⟩
   have c1 : wr.cell? ⟨g, k, none⟩ = some (.int .u64 (x : Int)) := (m3.cell k).trans (m4 k x hx)
   have c2 : wr.cell? ⟨g, m, none⟩ = some (.int .u64 (y : Int)) := (m3.cell m).trans (m4 m y hy)
   have f1 := m3.frozen k
   have f2 := m3.frozen m
   have hgl := m3.lt
   have hkm : (k : Int) < (m : Int) := by omega
   have hkm1 : k < m := by omega
   have hmn : m < n := by omega
   have hkn : k < n := by omega
   have HN : Hid (∃ (M : List Nat) (cu : Array Value), M.length = n /\ (∀ t, t < n -> M[t]? = if t < k + 1 \/ n - (k + 1) <= t then X[n - 1 - t]? else X[t]?) /\ IsC ((wr.setCell ⟨g, k, none⟩ (.int .u64 (y : Int))).setCell ⟨g, m, none⟩ (.int .u64 (x : Int))) g cu /\ (∀ (i x : Nat), M[i]? = some x -> cu[i]? = some (.int .u64 (x : Int))) /\ Tn (fun b => b = g) w ((wr.setCell ⟨g, k, none⟩ (.int .u64 (y : Int))).setCell ⟨g, m, none⟩ (.int .u64 (x : Int)))) := by
    have hck := (Array.getElem?_eq_some_iff.1 (m4 k x hx)).1
    have hcm := (Array.getElem?_eq_some_iff.1 (m4 m y hy)).1
    refine ⟨(M.set k y).set m x, _, by simp [m1], fun t ht => ?_, isC_set (isC_set m3 _) _, fun i z hz => ?_, (m5.set (p := ⟨g, k, none⟩) (.inl rfl) _).set (p := ⟨g, m, none⟩) (.inl rfl) _⟩
    ·have a1 := m2 k hkn
     have a2 := m2 m hmn
     rw [if_neg (by omega)] at a1 a2
     have a3 := m2 t ht
     by_cases e1 : t = m
     ·subst e1
      rw [List.getElem?_set_self (by simp [m1]; omega), if_pos (by omega), show n - 1 - t = k by omega, <- a1, hx]
     ·rw [List.getElem?_set_ne (by omega)]
      by_cases e2 : t = k
      ·subst e2
       rw [List.getElem?_set_self (by omega), if_pos (by omega), <- hm, <- a2, hy]
      ·rw [List.getElem?_set_ne (by omega), a3]
       by_cases e3 : t < k \/ n - k <= t
       ·rw [if_pos e3, if_pos (by omega)]
       ·rw [if_neg e3, if_neg (by omega)]
    ·by_cases e1 : i = m
     ·subst e1
      rw [List.getElem?_set_self (by simp [m1]; omega)] at hz
      cases hz
      simp [hcm]
     ·rw [List.getElem?_set_ne (by omega)] at hz
      rw [Array.getElem?_setIfInBounds_ne (by omega)]
      by_cases e2 : i = k
      ·subst e2
       rw [List.getElem?_set_self (by omega)] at hz
       cases hz
       simp [hck]
      ·rw [List.getElem?_set_ne (by omega)] at hz
       rw [Array.getElem?_setIfInBounds_ne (by omega)]
       exact m4 i z hz
   clear m2 m3 m4 m5 hx hy HM hmi
   have HMM : Hid (m = n - 1 - k) := hm
   clear hm
   go_wp2_with (first | go_region | fail)
   go_roundw
   case rel => exact ⟨k + 1, by omega, by go_num, by congr 1; have := HMM.out; push_cast; omega, by obtain ⟨M, cu, q1, q2, q3, q4, q5⟩ := HN.out; exact ⟨M, cu, q1, q2, q3, q4, q5.drew⟩⟩
   case measure => simp [intOf]; omega
  ·have hnl : ¬ (k : Int) < (n : Int) - 1 - (k : Int) := by omega
   have HE : Hid (Tn (fun b => b = g) w wr /\ HdsAt wr g (some ⟨g, 0, none⟩) X.reverse) := by
    refine ⟨m5, fun i z hz => ⟨0, rfl, m3.lt, ?_⟩⟩
    have hi : i < n := by have := (List.getElem?_eq_some_iff.1 hz).1; rw [List.length_reverse, HX.out] at this; exact this
    rw [Nat.zero_add, m3.cell]
    refine m4 i z ?_
    rw [List.getElem?_reverse (by rw [HX.out]; exact hi), HX.out] at hz
    rw [m2 i hi]
    by_cases e : i < k \/ n - k <= i
    ·rw [if_pos e, hz]
    ·rw [if_neg e, <- hz]
     congr 1
     omega
   clear m1 m2 m3 m4 m5 HM
   go_wp2
   go_end0
   exact ⟨rfl, HE.out⟩
end Go.Proofs.YtjkgjckkglfokaaGreat
/- along at 1, 3, 4, 6, 9, 10. -/
namespace Go.Proofs.YtjkgjckkglfokaaGreat
open Go.RowKit Go.Shelf
open Gr (Dc Sl View WF sl par hvals allR idxH allH lst ups Lev)
set_option linter.unusedVariables false
set_option linter.unusedSimpArgs false
set_option maxRecDepth 100000
set_option maxHeartbeats 1000000
attribute [local go_sem] Oper.semAt_some
theorem along_kid (w : World) (R : Nat -> Prop) (db : Nat) (D : Dc) (h : Nat) (s : Sl) (hv : View w R db D) (hw : WF D) (hs : sl D h = some s) :
  Calls Tryz.prog 27 #[.pointer (some ⟨db, 0, none⟩), .int .i64 ((1 : Nat) : Int), .int .u64 (h : Int)] w (AlP w (axl D 1 h)) := by
 have hf := row_any w R db D h hv hw (.inr ⟨s, hs⟩)
 rw [show axl D 1 h = lst D h from rfl]
 show Calls Tryz.prog 27 #[.pointer (some ⟨db, 0, none⟩), .int .i64 1, .int .u64 (h : Int)] w (AlP w (lst D h))
 generalize lst D h = L at *
 clear hv hw hs
 go_enter Tryz.func27, Tryz.ntmps27
 go_wp2_with fail
 refine hf.mono ?_
 rintro e w1 hm
 obtain ⟨a, c, g, rfl, h1, h2, h3, h4⟩ := hm.al
 have HB : Hid (HdsAt w1 g a L /\ (L ≠ [] -> w.heap.size <= g) /\ L.length <= c /\ Below w.heap.size w w1) := ⟨h1, h2, h3, h4⟩
 clear hf h1 h2 h3 h4 hm
 go_wp2
 go_ret
 exact ⟨a, c, g, rfl, HB.out⟩
theorem along_or (w : World) (R : Nat -> Prop) (db : Nat) (D : Dc) (h : Nat) (s : Sl) (hv : View w R db D) (hw : WF D) (hs : sl D h = some s) :
  Calls Tryz.prog 27 #[.pointer (some ⟨db, 0, none⟩), .int .i64 ((3 : Nat) : Int), .int .u64 (h : Int)] w (AlP w (axl D 3 h)) := by
 have hf := within_live w R db D h s hv hw hs
 rw [show axl D 3 h = allH D h from rfl]
 show Calls Tryz.prog 27 #[.pointer (some ⟨db, 0, none⟩), .int .i64 3, .int .u64 (h : Int)] w (AlP w (allH D h))
 generalize allH D h = L at *
 clear hv hw hs
 go_enter Tryz.func27, Tryz.ntmps27
 go_wp2_with fail
 refine hf.mono ?_
 rintro e w1 hm
 obtain ⟨a, c, g, rfl, h1, h2, h3, h4⟩ := hm.al
 have HB : Hid (HdsAt w1 g a L /\ (L ≠ [] -> w.heap.size <= g) /\ L.length <= c /\ Below w.heap.size w w1) := ⟨h1, h2, h3, h4⟩
 clear hf h1 h2 h3 h4 hm
 go_wp2
 go_ret
 exact ⟨a, c, g, rfl, HB.out⟩
theorem along_up (w : World) (R : Nat -> Prop) (db : Nat) (D : Dc) (h : Nat) (s : Sl) (hv : View w R db D) (hw : WF D) (hs : sl D h = some s) :
  Calls Tryz.prog 27 #[.pointer (some ⟨db, 0, none⟩), .int .i64 ((6 : Nat) : Int), .int .u64 (h : Int)] w (AlP w (axl D 6 h)) := by
 have hf := upward_any w R db D h s hv hw hs
 rw [show axl D 6 h = ups D h from rfl]
 show Calls Tryz.prog 27 #[.pointer (some ⟨db, 0, none⟩), .int .i64 6, .int .u64 (h : Int)] w (AlP w (ups D h))
 generalize ups D h = L at *
 clear hv hw hs
 go_enter Tryz.func27, Tryz.ntmps27
 go_wp2_with fail
 refine hf.mono ?_
 rintro e w1 hm
 obtain ⟨a, c, g, rfl, h1, h2, h3, h4⟩ := hm.al
 have HB : Hid (HdsAt w1 g a L /\ (L ≠ [] -> w.heap.size <= g) /\ L.length <= c /\ Below w.heap.size w w1) := ⟨h1, h2, h3, h4⟩
 clear hf h1 h2 h3 h4 hm
 go_wp2
 go_ret
 exact ⟨a, c, g, rfl, HB.out⟩
theorem along_par (w : World) (R : Nat -> Prop) (db : Nat) (D : Dc) (h : Nat) (s : Sl) (hv : View w R db D) (hw : WF D) (hs : sl D h = some s) :
  Calls Tryz.prog 27 #[.pointer (some ⟨db, 0, none⟩), .int .i64 ((4 : Nat) : Int), .int .u64 (h : Int)] w (AlP w (axl D 4 h)) := by
 have hu := upward_any w R db D h s hv hw hs
 obtain ⟨lv, hl⟩ := hw.lev
 rw [show axl D 4 h = (ups D h).tail.take 1 from rfl]
 rw [Gr.ups_step hl hs] at hu ⊢
 rw [List.tail_cons]
 generalize ups D s.parent = L at *
 show Calls Tryz.prog 27 #[.pointer (some ⟨db, 0, none⟩), .int .i64 4, .int .u64 (h : Int)] w (AlP w (L.take 1))
 clear hv hw hs hl
 go_enter Tryz.func27, Tryz.ntmps27
 go_wp2_with fail
 refine hu.mono ?_
 rintro e w1 ⟨a, cap, rfl, ho, hb⟩
 obtain ⟨g, rfl, -⟩ := row_hands ho rfl (by simp)
 obtain ⟨h1, h2, h3⟩ := al_one ho hb
 have HB : Hid (w.heap.size <= g /\ HdsAt w1 g (some ⟨g, 1, none⟩) L /\ L.length + 1 <= cap /\ Below w.heap.size w w1) := ⟨h1, h2, h3, hb⟩
 clear hu ho hb h1 h2
 cases L with
 | nil =>
  go_wp2
  case inl hcc =>
   go_ret
   exact ⟨some ⟨g, 0, none⟩, 0, g, rfl, fun i x hx => by simp at hx, fun _ => HB.out.1, Nat.le_refl _, HB.out.2.2.2⟩
  case inr hcc =>
   go_ret
   exact ⟨some ⟨g, 1, none⟩, _, g, rfl, fun i x hx => by simp at hx, fun _ => HB.out.1, by simp, HB.out.2.2.2⟩
 | cons p r =>
  have hlc : (h :: p :: r).length = r.length + 2 := rfl
  have hlc1 : (p :: r).length = r.length + 1 := rfl
  rw [hlc1] at h3
  rw [hlc]
  have hc2 : (2 : Int) <= ((r.length + 2 : Nat) : Int) := by omega
  have hmn : min (2 : Int) ((r.length + 2 : Nat) : Int) = 2 := by omega
  go_wp2
  go_ret
  exact ⟨some ⟨g, 1, none⟩, _, g, rfl, HB.out.2.1.take 1, fun _ => HB.out.1, by simp; omega, HB.out.2.2.2⟩
theorem along_fsib (w : World) (R : Nat -> Prop) (db : Nat) (D : Dc) (h : Nat) (s : Sl) (hv : View w R db D) (hw : WF D) (hs : sl D h = some s) :
  Calls Tryz.prog 27 #[.pointer (some ⟨db, 0, none⟩), .int .i64 ((9 : Nat) : Int), .int .u64 (h : Int)] w (AlP w (axl D 9 h)) := by
 obtain ⟨X, Y, e1⟩ := List.append_of_mem (hw.up h s hs)
 have n1 := hw.nodup s.parent
 rw [e1] at n1
 have hf := siblings_any w R db D h s hv hw hs X Y e1
 rw [show axl D 9 h = (lst D (par D h)).drop ((idxH (lst D (par D h)) h).toNat + 1) from rfl, show par D h = s.parent by simp [par, hs], show (lst D s.parent).drop ((idxH (lst D s.parent) h).toNat + 1) = Y by rw [e1, idx_app n1]; simp]
 show Calls Tryz.prog 27 #[.pointer (some ⟨db, 0, none⟩), .int .i64 9, .int .u64 (h : Int)] w (AlP w Y)
 clear hv hw hs e1 n1
 go_enter Tryz.func27, Tryz.ntmps27
 go_wp2_with fail
 refine hf.mono ?_
 rintro e w1 ⟨g, c, a2, c2, cur, rfl, h1, -, -, -, h2, h3, h4⟩
 have HB : Hid (HdsAt w1 g a2 Y /\ (Y ≠ [] -> w.heap.size <= g) /\ Y.length <= c2 /\ Below w.heap.size w w1) := ⟨h2, fun _ => h1, h3, h4⟩
 clear hf h1 h2 h3 h4
 go_wp2
 go_ret
 exact ⟨a2, c2, g, rfl, HB.out⟩
theorem along_psib (w : World) (R : Nat -> Prop) (db : Nat) (D : Dc) (h : Nat) (s : Sl) (hv : View w R db D) (hw : WF D) (hs : sl D h = some s) :
  Calls Tryz.prog 27 #[.pointer (some ⟨db, 0, none⟩), .int .i64 ((10 : Nat) : Int), .int .u64 (h : Int)] w (AlP w (axl D 10 h)) := by
 obtain ⟨X, Y, e1⟩ := List.append_of_mem (hw.up h s hs)
 have n1 := hw.nodup s.parent
 rw [e1] at n1
 obtain ⟨lv, hl⟩ := hw.lev
 have hlen := Gr.lst_len hw ((hl.par hs).imp (·.1) (fun ⟨p, h, _⟩ => ⟨p, h⟩))
 rw [e1] at hlen
 have hxl : X.length <= 1000000 := by rw [List.length_append] at hlen; omega
 have hf := siblings_any w R db D h s hv hw hs X Y e1
 rw [show axl D 10 h = ((lst D (par D h)).take (idxH (lst D (par D h)) h).toNat).reverse from rfl, show par D h = s.parent by simp [par, hs], show (lst D s.parent).take (idxH (lst D s.parent) h).toNat = X by rw [e1, idx_app n1]; simp]
 show Calls Tryz.prog 27 #[.pointer (some ⟨db, 0, none⟩), .int .i64 10, .int .u64 (h : Int)] w (AlP w X.reverse)
 clear hv hw hs e1 n1 hl hlen
 go_enter Tryz.func27, Tryz.ntmps27
 go_wp2_with fail
 refine hf.mono ?_
 rintro e w1 ⟨g, c, a2, c2, cur, rfl, h1, h5, h6, h7, -, -, h4⟩
 have hrv := reverse_any w1 g X.length c X cur rfl h5 h6 hxl h7
 have HB : Hid (w.heap.size <= g /\ X.length <= c /\ Below w.heap.size w w1) := ⟨h1, h7, h4⟩
 clear hf h1 h4 h5 h6 h7
 go_wp2_with fail
 refine hrv.mono ?_
 rintro e w2 ⟨rfl, t2, hd⟩
 have HG : Hid (HdsAt w2 g (some ⟨g, 0, none⟩) X.reverse /\ Below w.heap.size w w2) := ⟨hd, HB.out.2.2.trans (t2.below HB.out.2.2.size (fun k hk => by have := HB.out.1; omega))⟩
 clear hrv t2 hd
 go_wp2
 go_ret
 exact ⟨some ⟨g, 0, none⟩, c, g, by rw [List.length_reverse]; rfl, HG.out.1, fun _ => HB.out.1, by rw [List.length_reverse]; exact HB.out.2.1, HG.out.2⟩
end Go.Proofs.YtjkgjckkglfokaaGreat
/- WalkTurned, walked. -/
namespace Go.Proofs.YtjkgjckkglfokaaGreat
open Go.RowKit Go.Shelf
open Gr (Dc Sl View WF sl par hvals allR idxH allH lst ups Lev)
set_option linter.unusedVariables false
set_option linter.unusedSimpArgs false
set_option maxRecDepth 100000
set_option maxHeartbeats 4000000
attribute [local go_sem] Oper.semAt_some
def TrP (w : World) (e : Ending) (w' : World) : Prop := e = .returned (.bool true) /\ Below w.heap.size w w'
def ksT : List (Nat × Nat) := [(1, 4), (2, 5), (7, 8), (9, 10), (11, 11), (3, 6)]
theorem along_any {D : Dc} {R : Nat -> Prop} {db h k : Nat} {s : Sl} (k1 : 1 <= k) (k2 : k <= 11) (hw : WF D) (hs : sl D h = some s) (W : World) (hv : View W R db D) : Calls Tryz.prog 27 #[.pointer (some ⟨db, 0, none⟩), .int .i64 (k : Int), .int .u64 (h : Int)] W (AlP W (axl D k h)) := by
 match k, k1, k2 with
 | 1, _, _ => exact along_kid W R db D h s hv hw hs
 | 2, _, _ => exact along_desc W R db D h s hv hw hs
 | 3, _, _ => exact along_or W R db D h s hv hw hs
 | 4, _, _ => exact along_par W R db D h s hv hw hs
 | 5, _, _ => exact along_anc W R db D h s hv hw hs
 | 6, _, _ => exact along_up W R db D h s hv hw hs
 | 7, _, _ => exact along_fol W R db D h s hv hw hs
 | 8, _, _ => exact along_pre W R db D h s hv hw hs
 | 9, _, _ => exact along_fsib W R db D h s hv hw hs
 | 10, _, _ => exact along_psib W R db D h s hv hw hs
 | 11, _, _ => exact along_self W db h
 | k + 12, _, k2 => omega
theorem axl_len {D : Dc} (hw : WF D) {h k : Nat} {s : Sl} (hs : sl D h = some s) (k1 : 1 <= k) (k2 : k <= 11) : (axl D k h).length <= 4096 := by
 obtain ⟨lv, hl⟩ := hw.lev
 have h1 := Gr.lst_len hw (.inr ⟨s, hs⟩)
 have h2 := Gr.lst_len hw ((hl.par hs).imp (·.1) (fun ⟨p, h, _⟩ => ⟨p, h⟩))
 have h3 := (Gr.roots_len hw).2
 have h4 : (ups D h).length <= 64 := by rw [Gr.ups_length hl (.inr ⟨s, hs⟩)]; exact Gr.dep_le hl (.inr ⟨s, hs⟩)
 have hp := (parts hw hs).length_eq
 simp only [List.length_append] at hp
 have h0 : h ≠ 0 := by rintro rfl; rw [Gr.sl_zero] at hs; cases hs
 have h5 : (allH D h).length <= 4096 := by
  have := Gr.allA_len hw (.inr ⟨s, hs⟩)
  rwa [Gr.allA, if_neg h0] at this
 match k, k1, k2 with
 | 1, _, _ => exact h1
 | 2, _, _ => omega
 | 3, _, _ => exact h5
 | 4, _, _ => rw [show axl D 4 h = (ups D h).tail.take 1 from rfl, List.length_take]; omega
 | 5, _, _ => omega
 | 6, _, _ => rw [show axl D 6 h = ups D h from rfl]; omega
 | 7, _, _ => omega
 | 8, _, _ => omega
 | 9, _, _ => rw [show axl D 9 h = (lst D (par D h)).drop ((idxH (lst D (par D h)) h).toNat + 1) from rfl, List.length_drop, show par D h = s.parent by simp [par, hs]]; omega
 | 10, _, _ => rw [show axl D 10 h = ((lst D (par D h)).take (idxH (lst D (par D h)) h).toNat).reverse from rfl, List.length_reverse, List.length_take, show par D h = s.parent by simp [par, hs]]; omega
 | 11, _, _ => omega
 | k + 12, _, k2 => omega
theorem turned {D : Dc} (hw : WF D) {a b : Nat} {sa sb : Sl} (ea : sl D a = some sa) (eb : sl D b = some sb) {i k l : Nat} (h : ksT[i]? = some (k, l)) : (axl D l b).contains a = (axl D k a).contains b := by
 have key : b ∈ axl D k a ↔ a ∈ axl D l b := by
  match i, h with
  | 0, h => cases h; exact turn_kid hw ea eb
  | 1, h => cases h; exact turn_desc hw ea eb
  | 2, h => cases h; exact turn_fol hw ea eb
  | 3, h => cases h; exact turn_sib hw ea eb
  | 4, h => cases h; exact turn_self a b
  | 5, h => cases h; exact turn_or hw ea eb
  | i + 6, h => simp [ksT] at h
 rw [Bool.eq_iff_iff]
 simp only [List.contains_iff_mem]
 exact key.symm
theorem ksT_in {i k l : Nat} (h : ksT[i]? = some (k, l)) : 1 <= k /\ k <= 11 /\ 1 <= l /\ l <= 11 := by
 match i, h with
 | 0, h => cases h; omega
 | 1, h => cases h; omega
 | 2, h => cases h; omega
 | 3, h => cases h; omega
 | 4, h => cases h; omega
 | 5, h => cases h; omega
 | i + 6, h => simp [ksT] at h
theorem turned_walk (w : World) (aa : Option Addr) (an ac x y : Nat) (h1 : Gr.ActsAt w w.heap.size aa an) (l1 : an < 4611686018427387904) (hx : x < 18446744073709551616) (hy : y < 18446744073709551616) :
  Calls Tryz.prog 5 #[.slice aa an ac, .int .u64 (x : Int), .int .u64 (y : Int)] w (TrP w) := by
 have HA : Hid (Gr.ActsAt w w.heap.size aa an) := h1
 clear h1
 go_enter Tryz.func5, Tryz.ntmps5
 go_wp2_with fail
 refine Calls.mono (lives_any w) ?_
 rintro e w1 ⟨rfl, hb1⟩
 have hpl := played_any w w1 hb1 aa an ac HA.out l1
 clear hb1 HA
 go_wp2_with fail
 refine hpl.mono ?_
 rintro e w2 ⟨ro, db, D, a, c, rfl, hw, hv, ho, hb2⟩
 have HV : Hid (WF D /\ View w2 (fun b => ro b ≠ 0) db D /\ Below w.heap.size w w2) := ⟨hw, hv, hb2⟩
 clear hpl
 have hlen := (Gr.roots_len hw).2
 by_cases h0 : (allR D).length = 0
 ·have hz : (((allR D).length : Int) == 0) = true := by simp [h0]
  clear hw hv ho hb2 h0
  go_wp2
  go_ret
  exact ⟨rfl, HV.out.2.2⟩
 ·obtain ⟨g, rfl, hg1, hg2, hcap, hd, -⟩ := row_hands ho rfl (by omega)
  have hz : (((allR D).length : Int) == 0) = false := by rw [beq_eq_false_iff_ne]; omega
  have hpos : 0 < (allR D).length := by omega
  have hr1 : x % (allR D).length < (allR D).length := Nat.mod_lt _ hpos
  have hr2 : y % (allR D).length < (allR D).length := Nat.mod_lt _ hpos
  obtain ⟨n, hn⟩ : ∃ n, (allR D)[x % (allR D).length]? = some n := ⟨_, List.getElem?_eq_getElem hr1⟩
  obtain ⟨m, hm⟩ : ∃ m, (allR D)[y % (allR D).length]? = some m := ⟨_, List.getElem?_eq_getElem hr2⟩
  obtain ⟨s, hs⟩ := Gr.allR_live hw n (List.mem_of_getElem? hn)
  obtain ⟨s2, hs2⟩ := Gr.allR_live hw m (List.mem_of_getElem? hm)
  have hnl := (hw.lt hs).1
  have hml := (hw.lt hs2).1
  obtain ⟨o, e, -, c0⟩ := hd _ n hn
  cases e
  obtain ⟨o, e, -, c1⟩ := hd _ m hm
  cases e
  rw [Nat.zero_add] at c0 c1
  have HS : Hid (sl D n = some s /\ sl D m = some s2) := ⟨hs, hs2⟩
  obtain ⟨N, hN⟩ : ∃ N, (allR D).length = N := ⟨_, rfl⟩
  rw [hN] at hz hpos hr1 hr2 c0 c1 hcap hlen ⊢
  clear hw hv ho hb2 hd hn hm hs hs2 h0 hN
  go_wp2_with (first | go_quiet (fail) | fail)
  obtain ⟨W3, hW3⟩ : ∃ W3, (((w2.drewN nq).alloc (.cells #[.int .i64 1, .int .i64 2, .int .i64 7, .int .i64 9, .int .i64 11, .int .i64 3] 3)).alloc (.cells #[.int .i64 4, .int .i64 5, .int .i64 8, .int .i64 10, .int .i64 11, .int .i64 6] 3)) = W3 := ⟨_, rfl⟩
  rw [hW3]
  have HAX : Hid (IsC W3 w2.heap.size #[.int .i64 1, .int .i64 2, .int .i64 7, .int .i64 9, .int .i64 11, .int .i64 3] /\ IsC W3 (w2.heap.size + 1) #[.int .i64 4, .int .i64 5, .int .i64 8, .int .i64 10, .int .i64 11, .int .i64 6] /\ Tn (fun _ => False) w2 W3) := by
   have z1 := isC_new (w2.drewN nq) #[.int .i64 1, .int .i64 2, .int .i64 7, .int .i64 9, .int .i64 11, .int .i64 3] 3
   have z2 := isC_new ((w2.drewN nq).alloc (.cells #[.int .i64 1, .int .i64 2, .int .i64 7, .int .i64 9, .int .i64 11, .int .i64 3] 3)) #[.int .i64 4, .int .i64 5, .int .i64 8, .int .i64 10, .int .i64 11, .int .i64 6] 3
   have t0 : Tn (fun _ => False) w2 (w2.drewN nq) := Tn.of_below (below_drewN (Below.refl _ _) nq) (Nat.le_refl _)
   have n := fun (w : World) (o : Obj) => (Tn.refl (fun _ => False) w).alloc o
   refine ⟨?_, ?_, ?_⟩
   ·rw [<- hW3]; exact z1.tn (n _ _) id
   ·rw [<- hW3]
    have e : ((w2.drewN nq).alloc (.cells #[.int .i64 1, .int .i64 2, .int .i64 7, .int .i64 9, .int .i64 11, .int .i64 3] 3)).heap.size = w2.heap.size + 1 := by simp [World.alloc]
    rwa [e] at z2
   ·rw [<- hW3]; exact (t0.alloc _).alloc _
  clear hW3 c0 c1
  go_loopw [11] (fun iv wr => ∃ (i : Nat), i <= 6 /\ iv = .int .i64 (i : Int) /\ Hid (Below W3.heap.size W3 wr)) (fun iv _ => 6 - (intOf iv).toNat)
  case atStart => exact ⟨0, by omega, rfl, Below.refl _ _⟩
  case round =>
   obtain ⟨i, hi, rfl, hbw⟩ := hrel
   by_cases hlt : i < 6
   ·obtain ⟨⟨k, l⟩, hkl⟩ : ∃ p, ksT[i]? = some p := ⟨_, List.getElem?_eq_getElem (show i < ksT.length from hlt)⟩
    obtain ⟨k1, k2, l1', l2'⟩ := ksT_in hkl
    have t3 : Tn (fun _ => False) W3 wr := Tn.of_below hbw.out (Nat.le_refl _)
    have hv2 : View W3 (fun b => ro b ≠ 0) db D := HV.out.2.1.turn HAX.out.2.2.gr (fun _ _ h => h)
    have hvr : View wr (fun b => ro b ≠ 0) db D := hv2.turn t3.gr (fun _ _ h => h)
    have cax : wr.cell? ⟨w2.heap.size, i, none⟩ = some (.int .i64 (k : Int)) := by
     rw [(HAX.out.1.tn t3 id).cell]
     match i, hkl with
     | 0, hk => cases hk; rfl
     | 1, hk => cases hk; rfl
     | 2, hk => cases hk; rfl
     | 3, hk => cases hk; rfl
     | 4, hk => cases hk; rfl
     | 5, hk => cases hk; rfl
     | i + 6, hk => simp [ksT] at hk
    have hal := (HAX.out.1.tn t3 id).lt
    have hli := listed_any wr _ db D n k s k1 k2 hvr HV.out.1 HS.out.1 (axl D k n) (fun W hW => along_any k1 k2 HV.out.1 HS.out.1 W hW) (axl_len HV.out.1 HS.out.1 k1 k2)
    have HTU : Hid ((axl D l m).contains n = (axl D k n).contains m /\ (axl D k n).length <= 4096 /\ (axl D l m).length <= 4096) := ⟨turned HV.out.1 HS.out.1 HS.out.2 hkl, axl_len HV.out.1 HS.out.1 k1 k2, axl_len HV.out.1 HS.out.2 l1' l2'⟩
    have hi6 : (i : Int) < 6 := by omega
    have HAL : Hid (∀ W, View W (fun b => ro b ≠ 0) db D -> Calls Tryz.prog 18 #[.pointer (some ⟨db, 0, none⟩), .int .i64 (l : Int), .int .u64 (m : Int)] W (LstP W (axl D l m))) := fun W hvW => listed_any W _ db D m l s2 l1' l2' hvW HV.out.1 HS.out.2 (axl D l m) (fun W hW => along_any l1' l2' HV.out.1 HS.out.2 W hW) (axl_len HV.out.1 HS.out.2 l1' l2')
    have HVR : Hid (View wr (fun b => ro b ≠ 0) db D) := hvr
    have HCB : Hid (∀ W, Below wr.heap.size wr W -> W.cell? ⟨w2.heap.size + 1, i, none⟩ = some (.int .i64 (l : Int)) /\ w2.heap.size + 1 < W.heap.size) := fun W hb => by
     have hh := (HAX.out.2.1.tn t3 id).tn (Tn.of_below (A := fun _ => False) hb (Nat.le_refl _)) id
     refine ⟨?_, hh.lt⟩
     rw [hh.cell]
     match i, hkl with
     | 0, hk => cases hk; rfl
     | 1, hk => cases hk; rfl
     | 2, hk => cases hk; rfl
     | 3, hk => cases hk; rfl
     | 4, hk => cases hk; rfl
     | 5, hk => cases hk; rfl
     | i + 6, hk => simp [ksT] at hk
    have hws : W3.heap.size <= wr.heap.size := hbw.out.size
    generalize axl D k n = L at *
    generalize axl D l m = M at *
    clear hvr t3 hkl hv2
    go_wp2_with fail
    refine hli.mono ?_
    rintro e w4 ⟨la, lc, rfl, hlo, hb4⟩
    obtain ⟨g4, hg4, -⟩ := hds_own hlo
    obtain ⟨cbx, hal2⟩ := HCB.out w4 hb4
    have hl2 := HAL.out w4 (HVR.out.below hb4)
    have HB4 : Hid (Below W3.heap.size W3 w4 /\ W3.heap.size <= w4.heap.size) := ⟨hbw.out.trans (hb4.mono hws), Nat.le_trans hws hb4.size⟩
    have HD4 : Hid (HdsAt w4 g4 la L) := hg4
    clear hli hlo hb4 hg4 cax hal hbw
    go_wp2_with fail
    refine hl2.mono ?_
    rintro e w5 ⟨ma, mc, rfl, hmo, hb5⟩
    obtain ⟨g5, hg5, -⟩ := hds_own hmo
    have hd5 : HdsAt w5 g4 la L := HD4.out.tn (Tn.of_below (A := fun _ => False) hb5 (Nat.le_refl _)) (fun _ h => h)
    obtain ⟨zz, hzz⟩ : ∃ z, L.contains m = z := ⟨_, rfl⟩
    have hin1 := in_any w5 g4 la L lc m hd5 (by have := HTU.out.2.1; omega) zz hzz
    have hin2 := in_any w5 g5 ma M mc n hg5 (by have := HTU.out.2.2; omega) zz (by rw [HTU.out.1]; exact hzz)
    have HB5 : Hid (Below W3.heap.size W3 w5) := HB4.out.1.trans (hb5.mono HB4.out.2)
    clear hl2 hmo hb5 hg5 hd5 hzz cbx hal2
    go_wp2_with fail
    refine hin1.mono ?_
    rintro e w' ⟨rfl, rfl⟩
    go_wp2_with fail
    refine hin2.mono ?_
    rintro e w'' ⟨rfl, rfl⟩
    clear hin1 hin2
    have hne : (zz != zz) = false := by simp
    go_wp2
    go_roundw
    case rel => exact ⟨i + 1, by omega, by go_num, HB5⟩
    case measure => simp [intOf]; omega
   ·obtain rfl : i = 6 := by omega
    have HBF : Hid (Below w.heap.size w wr) := HV.out.2.2.trans (((Tn.trans HAX.out.2.2 (Tn.of_below hbw.out (Nat.le_refl _)) (fun _ _ h => h)).below (Nat.le_refl _) (fun _ h => h.elim)).mono HV.out.2.2.size)
    clear hbw
    go_wp2
    go_ret
    exact ⟨rfl, HBF.out⟩
end Go.Proofs.YtjkgjckkglfokaaGreat
