/- How many nodes a tree has, and how deep it is: the program's answer and the document's. -/
import Derived.Test.YtmapmkogjhinmaaA04
import Derived.Deep.RegionHeld3
namespace Go.Proofs.Ytmapmkogjhinmaa
open Go.RowKit
set_option maxRecDepth 100000
set_option maxHeartbeats 1000000
set_option linter.unusedVariables false
set_option linter.unusedSimpArgs false
def okT : (n : Nat) -> T n -> Prop
 | 0, _ => True
 | n + 1, t => ownE t = 0 /\ ∀ k ∈ kidsT t, okT n k
def ndT : (n : Nat) -> T n -> Nat
 | 0, _ => 0
 | n + 1, t => ((kidsT t).map (ndT n)).sum + 1
def htT : (n : Nat) -> T n -> Nat
 | 0, _ => 0
 | n + 1, t => ((kidsT t).map (htT n)).foldl max 0 + 1
theorem foldl_max_ge (l : List Nat) : ∀ a, a <= l.foldl max a /\ ∀ x ∈ l, x <= l.foldl max a := by
 induction l with
 | nil => intro a; simp
 | cons y r ih =>
  intro a
  obtain ⟨h1, h2⟩ := ih (max a y)
  refine ⟨by simp only [List.foldl_cons]; omega, fun x hx => ?_⟩
  rcases List.mem_cons.1 hx with rfl | hx
  ·simp only [List.foldl_cons]; omega
  ·exact h2 x hx
theorem chk_ok : ∀ (n : Nat) (t : T n) (d a : Int), 0 <= a -> a <= 4096 -> d <= 65 -> (chk n t d a).2 = 0 -> okT n t /\ (chk n t d a).1 = a + ndT n t /\ d + htT n t <= 65
 | 0, t, d, a, _, _, hd, h => by simp [okT, chk, ndT, htT]; exact hd
 | n + 1, t, d, a, h0, h1, hd, h => by
  rw [chk] at h ⊢
  by_cases hx : 64 < d \/ 4096 <= a
  ·rw [if_pos hx] at h; simp at h
  ·rw [if_neg hx] at h ⊢
   by_cases ho : ownE t = 0
   ·rw [if_pos ho] at h ⊢
    have key : ∀ (L : List (T n)) (a : Int), 0 <= a -> a <= 4096 -> (chkL (fun k x => chk n k (d + 1) x) L a).2 = 0 -> (∀ k ∈ L, okT n k) /\ (chkL (fun k x => chk n k (d + 1) x) L a).1 = a + ((L.map (ndT n)).sum : Nat) /\ (∀ k ∈ L, d + 1 + htT n k <= 65) := by
     intro L
     induction L with
     | nil => intro a _ _ _; simp [chkL]
     | cons k r ih =>
      intro a ha0 ha1 hc
      rw [chkL] at hc ⊢
      by_cases he : (chk n k (d + 1) a).2 = 0
      ·rw [if_pos he] at hc ⊢
       obtain ⟨g1, g2, g3⟩ := chk_ok n k (d + 1) a ha0 ha1 (by omega) he
       have hle := chk_le n k (d + 1) a ha1
       have hge := chk_ge n k (d + 1) a
       obtain ⟨i1, i2, i3⟩ := ih _ (by omega) hle hc
       refine ⟨fun x hx => ?_, ?_, fun x hx => ?_⟩
       ·rcases List.mem_cons.1 hx with rfl | hx
        ·exact g1
        ·exact i1 x hx
       ·rw [i2, g2]
        simp only [List.map_cons, List.sum_cons]
        omega
       ·rcases List.mem_cons.1 hx with rfl | hx
        ·exact g3
        ·exact i3 x hx
      ·rw [if_neg he] at hc
       exact absurd hc he
    obtain ⟨k1, k2, k3⟩ := key (kidsT t) (a + 1) (by omega) (by omega) h
    refine ⟨⟨ho, k1⟩, ?_, ?_⟩
    ·rw [k2, ndT]; omega
    ·rw [htT]
     have := foldl_max_le ((kidsT t).map (htT n)) (64 - d).toNat 0 (by omega) (fun x hx => by
      obtain ⟨c, hc, rfl⟩ := List.mem_map.1 hx
      have := k3 c hc
      omega)
     omega
   ·rw [if_neg ho] at h
    exact absurd h ho
theorem sum_part (l : List Nat) (i : Nat) : (l.take i).sum <= l.sum := by
 have h := congrArg List.sum (List.take_append_drop i l)
 rw [List.sum_append] at h
 omega
theorem ndT_pos : ∀ (n : Nat) (t : T (n + 1)), 1 <= ndT (n + 1) t := fun n t => by rw [ndT]; omega
def MeaP (w : World) (x y : Nat) (e : Ending) (w' : World) : Prop := e = .returned (.tuple #[.int .i64 (x : Int), .int .i64 (y : Int)]) /\ Below w.heap.size w w'
def MeaAll (n : Nat) : Prop := ∀ (w : World) (v : Array Value) (t : T n) (lo hi : Nat), TreeAt w lo hi n v t -> hi <= w.heap.size -> okT n t -> ndT n t <= 4096 -> htT n t <= 4096 -> Calls Try.prog 34 #[.agg v] w (MeaP w (ndT n t) (htT n t))
theorem measure_any : ∀ (n : Nat), MeaAll n
 | 0 => fun _ _ _ _ _ h => h.elim
 | n + 1 => by
  intro w v t lo hi h hsz hok hnd hht
  have ih := measure_any n
  obtain ⟨a, ac, ka, kc, rfl, hal, hkl, hac, hkc, hat, hkt⟩ := id h
  unfold tv at h ⊢
  obtain ⟨ho, hkk⟩ := hok
  obtain ⟨ka', kc', hk1, -, hkat, hkm⟩ := h.kids ho
  have hko := fun W => kidsOf_any W t.kind t.name a t.attrs.length ac t.text ka t.kids.length kc
  rw [hk1] at hko
  unfold maxK at hkm
  have HKT : Hid (KidsAt w lo hi n ka' (kidsT t)) := hkat
  have HOK : Hid (∀ k ∈ kidsT t, okT n k) := hkk
  have HND : Hid (ndT (n + 1) t = ((kidsT t).map (ndT n)).sum + 1) := rfl
  have HHT : Hid (htT (n + 1) t = ((kidsT t).map (htT n)).foldl max 0 + 1) := rfl
  have HBN : Hid (Below w.heap.size w (w.alloc (.cells #[.int .i64 t.kind, .string t.name, .slice a t.attrs.length ac, .string t.text, .slice ka t.kids.length kc] 36))) := below_new' w _
  clear hal hkl hac hkc hat hkt h ho hkk hkat hk1
  generalize kidsT t = L at *
  go_enter Try.func34, Try.ntmps34
  go_wp2_with fail
  refine (hko _).mono ?_
  rintro e w1 ⟨rfl, hb1⟩
  have HB1 : Hid (Below w.heap.size w w1) := HBN.out.trans (hb1.mono (by simp))
  clear hb1 hko
  go_wp2
  go_loopw [2, 3, 11] (fun q r iv wr => ∃ (j x y : Nat), j <= L.length /\ iv = .int .i64 (j : Int) /\ q = .int .i64 (x : Int) /\ r = .int .i64 (y : Int) /\ x <= 4096 /\ y <= 4096 /\ Hid (((L.take j).map (ndT n)).sum = x) /\ Hid (((L.take j).map (htT n)).foldl max 0 = y) /\ Hid (Below w.heap.size w wr)) (fun _ _ iv _ => L.length - (intOf iv).toNat)
  case atStart => exact ⟨0, 0, 0, by omega, rfl, rfl, rfl, by omega, by omega, rfl, rfl, HB1⟩
  case round =>
   obtain ⟨j, x, y, hj, rfl, rfl, rfl, hx, hy, hsx, hsy, hbw⟩ := hrel
   have hbs := hbw.out.size
   clear HB1
   by_cases hlt : j < L.length
   ·obtain ⟨k, hk⟩ : ∃ k, L[j]? = some k := ⟨_, List.getElem?_eq_getElem hlt⟩
    have hkt' := HKT.out.below hbw.out hsz
    obtain ⟨b, o, kk, nm, a', al', ac', tx, ka2, kl2, kc2, rfl, hb1, hb2, c0, c1, c2, c3, c4, htr⟩ := hkt'.get hk
    have hbr : b < wr.heap.size := by omega
    have hmk : k ∈ L := List.mem_of_getElem? hk
    have hnk : x + ndT n k <= 4096 := by
     have h1 := sum_part (L.map (ndT n)) (j + 1)
     have h2 := HND.out
     rw [<- List.map_take, take_more hk, List.map_append, List.sum_append, hsx.out] at h1
     simp at h1
     omega
    have hhk : htT n k <= 4096 := by
     have h1 := (foldl_max_ge (L.map (htT n)) 0).2 (htT n k) (List.mem_map_of_mem hmk)
     have h2 := HHT.out
     omega
    have hih := ih (wr.alloc (.cells #[.int .i64 kk, .string nm, .slice a' al' ac', .string tx, .slice ka2 kl2 kc2] 36)) _ k lo hi (htr.below (below_new' wr _) (by omega)) (by simp; omega) (HOK.out k hmk) (by omega) hhk
    have HSX : Hid (((L.take (j + 1)).map (ndT n)).sum = x + ndT n k) := by
     show _ = _
     rw [take_more hk, List.map_append, List.sum_append, hsx.out]
     simp
    have HSY : Hid (((L.take (j + 1)).map (htT n)).foldl max 0 = max y (htT n k)) := by
     show _ = _
     rw [take_more hk, List.map_append, List.foldl_append, hsy.out]
     rfl
    generalize ndT n k = p at *
    generalize htT n k = q at *
    clear hkt' hk htr hsx hsy hmk
    go_wp2_with fail
    refine hih.mono ?_
    rintro e w2 ⟨rfl, hb2⟩
    have HB2 : Hid (Below w.heap.size w w2) := (hbw.out.alloc hbs _).trans (hb2.mono (by simp; omega))
    clear hb2 hih c0 c1 c2 c3 c4
    go_wp2
    refine ⟨⟨j + 1, x + p, max y q, by omega, by go_num, by go_num, congrArg _ (by split <;> omega), by omega, by omega, HSX, HSY, HB2⟩, ?_⟩
    simp [intOf]
    omega
   ·have hje : j = L.length := by omega
    subst hje
    have e1 : ndT (n + 1) t = x + 1 := by rw [HND.out, <- hsx.out, List.take_length]
    have e2 : htT (n + 1) t = y + 1 := by rw [HHT.out, <- hsy.out, List.take_length]
    have H1 : Hid (ndT (n + 1) t = x + 1) := e1
    have H2 : Hid (htT (n + 1) t = y + 1) := e2
    clear e1 e2 hsx hsy ih hnd hht
    go_wp2
    go_ret2
    exact ⟨congrArg _ (v_two (by rw [H1.out]; omega) (by rw [H2.out]; omega)), hbw.out⟩
attribute [local go_sem] Bel.cell Bel.fz
def isPlaceB (wh : Int) (a : Nat) : Bool := decide (wh = 1 \/ wh = 2 \/ ((wh = 3 \/ wh = 4) /\ a ≠ 0))
theorem isPlace_any (w : World) (wh : Int) (a : Nat) : Calls Try.prog 31 #[.int .i64 wh, .int .u64 (a : Int)] w fun e w' => e = .returned (.bool (isPlaceB wh a)) /\ w' = w := by
 by_cases h1 : wh = 1
 ·subst h1
  go_enter Try.func31, Try.ntmps31
  go_wp2
  go_ret
  exact ⟨rfl, rfl⟩
 ·by_cases h2 : wh = 2
  ·subst h2
   go_enter Try.func31, Try.ntmps31
   go_wp2
   go_ret
   exact ⟨rfl, rfl⟩
  ·by_cases h3 : wh = 3
   ·subst h3
    go_enter Try.func31, Try.ntmps31
    go_wp2
    go_ret
    refine ⟨congrArg _ (v_bool (Bool.eq_iff_iff.2 ?_)), rfl⟩
    simp [isPlaceB]
    try omega
   ·by_cases h4 : wh = 4
    ·subst h4
     go_enter Try.func31, Try.ntmps31
     go_wp2
     go_ret
     refine ⟨congrArg _ (v_bool (Bool.eq_iff_iff.2 ?_)), rfl⟩
     simp [isPlaceB]
     try omega
    ·have e1 : isPlaceB wh a = false := by simp [isPlaceB, h1, h2, h3, h4]
     rw [e1]
     have b1 : (wh == 1) = false := beq_eq_false_iff_ne.2 h1
     have b2 : (wh == 2) = false := beq_eq_false_iff_ne.2 h2
     have b3 : (wh == 3) = false := beq_eq_false_iff_ne.2 h3
     have b4 : (wh == 4) = false := beq_eq_false_iff_ne.2 h4
     clear h1 h2 h3 h4 e1
     go_enter Try.func31, Try.ntmps31
     go_wp2
     go_ret
     exact ⟨rfl, rfl⟩
def fitsE (D : Dc) (p ht : Nat) : Int := if (∃ s, sl D p = some s /\ s.kind = 2) then 31 else if 64 < (ups D p).length + ht then 32 else 0
theorem fits_any (w : World) (R : Nat -> Prop) (db : Nat) (D : Dc) (p ht : Nat) (hv : View w R db D) (hw : WF D) (hp : p = 0 \/ ∃ s, sl D p = some s) (hht : ht <= 4096) (z : Int) (hz : fitsE D p ht = z) :
  Calls Try.prog 35 #[.pointer (some ⟨db, 0, none⟩), .int .u64 (p : Int), .int .i64 (ht : Int)] w fun e w' => e = .returned (.int .i64 z) /\ Below w.heap.size w w' := by
 obtain ⟨lv, hlv⟩ := hw.lev
 have hul : (ups D p).length <= 64 := by rw [ups_length hlv hp]; exact dep_le hlv hp
 have hdp := fun W (hb : Below w.heap.size w W) => depth_any W R db D p (hv.below hb) hw hp
 have HDP : Hid (∀ W, Below w.heap.size w W -> Calls Try.prog 48 #[.pointer (some ⟨db, 0, none⟩), .int .u64 (p : Int)] W fun e w' => e = .returned (.int .i64 ((ups D p).length : Int)) /\ Below W.heap.size W w') := hdp
 have hpl := hw.ltz hp
 clear hdp hlv
 cases hs : sl D p with
 | none =>
  have hfi := find_none w R db D p hv hw.fits hpl (sl_none hs)
  have hz' : (if 64 < (ups D p).length + ht then (32 : Int) else 0) = z := by
   have hn : ¬ (∃ s, sl D p = some s /\ s.kind = 2) := by
    rintro ⟨s, h, _⟩
    rw [hs] at h
    cases h
   rw [<- hz, fitsE, if_neg hn]
  generalize (ups D p).length = u at *
  clear hv hw hp hz hs
  by_cases hc : 64 < u + ht
  ·rw [if_pos hc] at hz'
   have HZ : Hid (32 = z) := hz'
   clear hz'
   go_enter Try.func35, Try.ntmps35
   go_wp2_with fail
   refine hfi.mono ?_
   rintro e w1 ⟨rfl, hb1⟩
   have HB1 : Hid (Below w.heap.size w w1) := hb1
   clear hb1 hfi
   go_wp2_with fail
   refine (HDP.out w1 HB1.out).mono ?_
   rintro e w2 ⟨rfl, hb2⟩
   have HB2 : Hid (Below w.heap.size w w2) := HB1.out.trans (hb2.mono HB1.out.size)
   clear hb2
   go_wp2
   go_ret
   exact ⟨congrArg _ (v_int HZ.out), HB2.out⟩
  ·rw [if_neg hc] at hz'
   have HZ : Hid (0 = z) := hz'
   clear hz'
   go_enter Try.func35, Try.ntmps35
   go_wp2_with fail
   refine hfi.mono ?_
   rintro e w1 ⟨rfl, hb1⟩
   have HB1 : Hid (Below w.heap.size w w1) := hb1
   clear hb1 hfi
   go_wp2_with fail
   refine (HDP.out w1 HB1.out).mono ?_
   rintro e w2 ⟨rfl, hb2⟩
   have HB2 : Hid (Below w.heap.size w w2) := HB1.out.trans (hb2.mono HB1.out.size)
   clear hb2
   go_wp2
   go_ret
   exact ⟨congrArg _ (v_int HZ.out), HB2.out⟩
 | some s =>
  obtain ⟨i, ha, hsi, -⟩ := sl_live hs
  obtain ⟨b, o, cap, aa, ac, ka, kc, h1, hcl, hbR, c0, c1, c2, -⟩ := hv.slot hsi
  have hfi := find_some w R db D p i hv hw.fits hpl ha b o cap h1
  have hbl := hv.lt b hbR
  by_cases k2 : s.kind = 2
  ·have hz' : z = 31 := by rw [<- hz, fitsE, if_pos ⟨s, hs, k2⟩]
   rw [k2] at c2
   clear hv hw hp hz hs ha hsi k2 HDP
   go_enter Try.func35, Try.ntmps35
   go_wp2_with fail
   refine hfi.mono ?_
   rintro e w1 ⟨rfl, hb1⟩
   obtain ⟨hcc, -⟩ := bcell hb1
   have HB1 : Hid (Below w.heap.size w w1) := hb1
   clear hb1 hfi
   go_wp2
   go_ret
   exact ⟨congrArg _ (v_int hz'.symm), HB1.out⟩
  ·have hz' : (if 64 < (ups D p).length + ht then (32 : Int) else 0) = z := by
    have hn : ¬ (∃ s, sl D p = some s /\ s.kind = 2) := by
     rintro ⟨s', h, h2⟩
     rw [hs] at h
     cases h
     exact k2 h2
    rw [<- hz, fitsE, if_neg hn]
   have hkb : (s.kind == 2) = false := beq_eq_false_iff_ne.2 k2
   generalize (ups D p).length = u at *
   clear hv hw hp hz hs ha hsi k2
   by_cases hc : 64 < u + ht
   ·rw [if_pos hc] at hz'
    have HZ : Hid (32 = z) := hz'
    clear hz'
    go_enter Try.func35, Try.ntmps35
    go_wp2_with fail
    refine hfi.mono ?_
    rintro e w1 ⟨rfl, hb1⟩
    obtain ⟨hcc, -⟩ := bcell hb1
    have HB1 : Hid (Below w.heap.size w w1) := hb1
    clear hb1 hfi
    go_wp2_with fail
    refine (HDP.out w1 HB1.out).mono ?_
    rintro e w2 ⟨rfl, hb2⟩
    have HB2 : Hid (Below w.heap.size w w2) := HB1.out.trans (hb2.mono HB1.out.size)
    clear hb2
    go_wp2
    go_ret
    exact ⟨congrArg _ (v_int HZ.out), HB2.out⟩
   ·rw [if_neg hc] at hz'
    have HZ : Hid (0 = z) := hz'
    clear hz'
    go_enter Try.func35, Try.ntmps35
    go_wp2_with fail
    refine hfi.mono ?_
    rintro e w1 ⟨rfl, hb1⟩
    obtain ⟨hcc, -⟩ := bcell hb1
    have HB1 : Hid (Below w.heap.size w w1) := hb1
    clear hb1 hfi
    go_wp2_with fail
    refine (HDP.out w1 HB1.out).mono ?_
    rintro e w2 ⟨rfl, hb2⟩
    have HB2 : Hid (Below w.heap.size w w2) := HB1.out.trans (hb2.mono HB1.out.size)
    clear hb2
    go_wp2
    go_ret
    exact ⟨congrArg _ (v_int HZ.out), HB2.out⟩
theorem canGive_any (w : World) (g : Nat) (lv : Bool) (k : Int) (nm : ByteArray) (av : Value) (tx : ByteArray) (p : Nat) (kv : Value) :
  Calls Try.prog 49 #[.agg #[.int .u32 (g : Int), .bool lv, .int .i64 k, .string nm, av, .string tx, .int .u64 (p : Int), kv]] w fun e w' => e = .returned (.bool (!lv && decide (g < 4294967295))) /\ Below w.heap.size w w' := by
 cases lv
 ·go_enter Try.func49, Try.ntmps49
  go_wp2
  go_ret
  refine ⟨congrArg _ (v_bool (Bool.eq_iff_iff.2 ?_)), below_new' w _⟩
  simp
  try omega
 ·go_enter Try.func49, Try.ntmps49
  go_wp2
  go_ret
  exact ⟨rfl, below_new' w _⟩
attribute [local go_sem] Bel.cell Bel.fz
def cnt (f : Sl -> Bool) (S : List Sl) : Nat := (S.filter f).length
def takenB (s : Sl) : Bool := s.live || decide (s.gen = 4294967295)
theorem list_of {α : Type} : ∀ (len : Nat) (p : Nat -> α -> Prop), (∀ i, i < len -> ∃ k, p i k) -> ∃ L : List α, L.length = len /\ ∀ i k, L[i]? = some k -> p i k
 | 0, p, h => ⟨[], rfl, fun i k hk => by simp at hk⟩
 | len + 1, p, h => by
  obtain ⟨L, hl, hL⟩ := list_of len p (fun i hi => h i (by omega))
  obtain ⟨x, hx⟩ := h len (by omega)
  refine ⟨L ++ [x], by simp [hl], fun i k hk => ?_⟩
  rcases Nat.lt_or_ge i len with hi | hi
  ·rw [List.getElem?_append_left (by omega)] at hk
   exact hL i k hk
  ·have : i = len := by
    have := (List.getElem?_eq_some_iff.1 hk).1
    simp at this
    omega
   subst this
   rw [List.getElem?_append_right (by omega), hl] at hk
   simp at hk
   subst hk
   exact hx
def slotCells (s : Sl) (p : Value × Value) : List Value := [.int .u32 (s.gen : Int), .bool s.live, .int .i64 s.kind, .string s.name, p.1, .string s.text, .int .u64 (s.parent : Int), p.2]
def rowOf (S : List Sl) (L : List (Value × Value)) : List Value := (S.zip L).flatMap fun x => slotCells x.1 x.2
theorem flat8_get {α : Type} (f : α -> List Value) (hf : ∀ x, (f x).length = 8) : ∀ (l : List α) (i j : Nat), j < 8 -> (l.flatMap f)[i * 8 + j]? = (l[i]?).bind fun x => (f x)[j]?
 | [], i, j, _ => by simp
 | a :: r, 0, j, hj => by
  rw [List.flatMap_cons, List.getElem?_append_left (by rw [hf]; omega)]
  simp
 | a :: r, i + 1, j, hj => by
  rw [List.flatMap_cons, List.getElem?_append_right (by rw [hf]; omega), hf]
  rw [show (i + 1) * 8 + j - 8 = i * 8 + j from by omega, flat8_get f hf r i j hj]
  simp
theorem flat8_len {α : Type} (f : α -> List Value) (hf : ∀ x, (f x).length = 8) : ∀ (l : List α), (l.flatMap f).length = l.length * 8
 | [] => rfl
 | a :: r => by
  rw [List.flatMap_cons, List.length_append, hf, flat8_len f hf r, List.length_cons]
  omega
theorem zip_get {S : List Sl} {L : List (Value × Value)} {i : Nat} {s : Sl} {p : Value × Value} (h1 : S[i]? = some s) (h2 : L[i]? = some p) : (S.zip L)[i]? = some (s, p) := by
 rw [List.getElem?_zip_eq_some]
 exact ⟨h1, h2⟩
theorem rowOf_len {S : List Sl} {L : List (Value × Value)} (h : L.length = S.length) : (rowOf S L).length = S.length * 8 := by
 unfold rowOf
 rw [flat8_len _ (fun x => rfl), List.length_zip, h, Nat.min_self]
theorem rowOf_get {S : List Sl} {L : List (Value × Value)} {i j : Nat} {s : Sl} {p : Value × Value} (h1 : S[i]? = some s) (h2 : L[i]? = some p) (hj : j < 8) : (rowOf S L)[i * 8 + j]? = (slotCells s p)[j]? := by
 unfold rowOf
 rw [flat8_get _ (fun x => rfl) _ i j hj, zip_get h1 h2]
 rfl
theorem rowOf_set {S : List Sl} {L : List (Value × Value)} (h : L.length = S.length) {i j : Nat} {s s' : Sl} {p p' : Value × Value} (h1 : S[i]? = some s) (h2 : L[i]? = some p) (hj : j < 8) {u : Value} (hs : slotCells s' p' = (slotCells s p).set j u) :
  rowOf (S.set i s') (L.set i p') = (rowOf S L).set (i * 8 + j) u := by
 have hi := (List.getElem?_eq_some_iff.1 h1).1
 apply List.ext_getElem?
 intro m
 rcases Nat.lt_or_ge m (S.length * 8) with hm | hm
 ·have em : m = m / 8 * 8 + m % 8 := by omega
  have hm8 : m % 8 < 8 := Nat.mod_lt _ (by omega)
  obtain ⟨sm, hsm⟩ : ∃ x, (S.set i s')[m / 8]? = some x := ⟨_, List.getElem?_eq_getElem (by simp; omega)⟩
  obtain ⟨pm, hpm⟩ : ∃ x, (L.set i p')[m / 8]? = some x := ⟨_, List.getElem?_eq_getElem (by simp; omega)⟩
  rw [em, rowOf_get hsm hpm hm8]
  by_cases hq : m / 8 = i
  ·rw [hq, List.getElem?_set_self hi] at hsm
   rw [hq, List.getElem?_set_self (by omega)] at hpm
   cases hsm
   cases hpm
   rw [hs, hq]
   by_cases hr : m % 8 = j
   ·rw [hr, List.getElem?_set_self (by show j < 8; exact hj), List.getElem?_set_self (by rw [rowOf_len h]; omega)]
   ·rw [List.getElem?_set_ne (by omega), List.getElem?_set_ne (by omega), rowOf_get h1 h2 hm8]
  ·rw [List.getElem?_set_ne (by omega)] at hsm hpm
   rw [List.getElem?_set_ne (by omega), rowOf_get hsm hpm hm8]
 ·rw [List.getElem?_eq_none (by rw [rowOf_len (by simp [h])]; simp; omega), List.getElem?_eq_none (by simp; rw [rowOf_len h]; omega)]
def SlotVals (w : World) (R : Nat -> Prop) (s : Sl) (p : Value × Value) : Prop :=
 ∃ (aa : Option Addr) (ac : Nat) (ka : Option Addr) (kc : Nat), p = (.slice aa s.attrs.length ac, .slice ka s.kids.length kc) /\ s.attrs.length <= ac /\ s.kids.length <= kc /\ AttrsR w R aa s.attrs /\ HandsAt w R ka s.kids
theorem SlotVals.to {w w' : World} {R R' : Nat -> Prop} {s : Sl} {p : Value × Value} (h : SlotVals w R s p) (hR : ∀ b, R b -> R' b) (hc : ∀ b o, R b -> w'.cell? ⟨b, o, none⟩ = w.cell? ⟨b, o, none⟩) : SlotVals w' R' s p := by
 obtain ⟨aa, ac, ka, kc, h1, h2, h3, h4, h5⟩ := h
 exact ⟨aa, ac, ka, kc, h1, h2, h3, h4.to hR hc, h5.to hR hc⟩
theorem SlotsAt.row {w : World} {R : Nat -> Prop} {a : Option Addr} {S : List Sl} (h : SlotsAt w R a S) : ∃ L : List (Value × Value), L.length = S.length /\ (∀ (i : Nat) (s : Sl) (p : Value × Value), S[i]? = some s -> L[i]? = some p -> SlotVals w R s p) /\ ∀ j u, (rowOf S L)[j]? = some u -> ∃ ad, a = some ad /\ w.cell? (ad.add j) = some u := by
 obtain ⟨L, hl, hL⟩ := list_of S.length (fun i (p : Value × Value) => ∃ s b o, S[i]? = some s /\ a = some ⟨b, o, none⟩ /\ SlotVals w R s p /\ ∀ j u, (slotCells s p)[j]? = some u -> w.cell? ⟨b, o + (i * 8 + j), none⟩ = some u) (fun i hi => by
  obtain ⟨s, hs⟩ : ∃ s, S[i]? = some s := ⟨_, List.getElem?_eq_getElem hi⟩
  obtain ⟨b, o, h1, h2, aa, ac, ka, kc, c0, c1, c2, c3, c4, c5, c6, c7, l1, l2, h3, h4⟩ := h i s hs
  refine ⟨(.slice aa s.attrs.length ac, .slice ka s.kids.length kc), s, b, o, hs, h1, ⟨aa, ac, ka, kc, rfl, l1, l2, h3, h4⟩, fun j u hu => ?_⟩
  have hj := (List.getElem?_eq_some_iff.1 hu).1
  have hj8 : j < 8 := hj
  rw [<- Nat.add_assoc]
  match j, hj8 with
  | 0, _ => simp [slotCells] at hu; rw [<- hu]; exact c0
  | 1, _ => simp [slotCells] at hu; rw [<- hu]; exact c1
  | 2, _ => simp [slotCells] at hu; rw [<- hu]; exact c2
  | 3, _ => simp [slotCells] at hu; rw [<- hu]; exact c3
  | 4, _ => simp [slotCells] at hu; rw [<- hu]; exact c4
  | 5, _ => simp [slotCells] at hu; rw [<- hu]; exact c5
  | 6, _ => simp [slotCells] at hu; rw [<- hu]; exact c6
  | 7, _ => simp [slotCells] at hu; rw [<- hu]; exact c7)
 refine ⟨L, hl, fun i s p hs hp => ?_, fun j u hu => ?_⟩
 ·obtain ⟨s', b, o, e1, _, e2, _⟩ := hL i p hp
  rw [hs] at e1
  cases e1
  exact e2
 ·have hj := (List.getElem?_eq_some_iff.1 hu).1
  rw [rowOf_len hl] at hj
  have em : j = j / 8 * 8 + j % 8 := by omega
  obtain ⟨p, hp⟩ : ∃ p, L[j / 8]? = some p := ⟨_, List.getElem?_eq_getElem (by omega)⟩
  obtain ⟨s, b, o, e1, e2, _, e3⟩ := hL _ p hp
  rw [em, rowOf_get e1 hp (Nat.mod_lt _ (by omega))] at hu
  refine ⟨_, e2, ?_⟩
  rw [addr_plus, em]
  exact e3 _ u hu
theorem slots_row {w : World} {R : Nat -> Prop} {base : Nat} {e : TypeId} {a : Option Addr} {n cap : Nat} {S : List Sl} {L : List (Value × Value)} (hl : L.length = S.length) (hown : w.ownsRow base e 8 (.slice a n cap) n (rowOf S L)) (hv : ∀ (i : Nat) (s : Sl) (p : Value × Value), S[i]? = some s -> L[i]? = some p -> SlotVals w R s p)
  (hR : ∀ g, a = some ⟨g, 0, none⟩ -> base <= g -> g < w.heap.size -> R g) : SlotsAt w R a S /\ n = S.length /\ n <= cap := by
 obtain ⟨h1, h2, h3⟩ := row_cell hown
 rw [rowOf_len hl] at h2
 refine ⟨fun i s hs => ?_, by omega, h1⟩
 have hi := (List.getElem?_eq_some_iff.1 hs).1
 obtain ⟨p, hp⟩ : ∃ p, L[i]? = some p := ⟨_, List.getElem?_eq_getElem (by omega)⟩
 have hc : ∀ j u, (slotCells s p)[j]? = some u -> ∃ g, a = some ⟨g, 0, none⟩ /\ base <= g /\ g < w.heap.size /\ w.cell? ⟨g, i * 8 + j, none⟩ = some u := fun j u hu => by
  have hj8 : j < 8 := (List.getElem?_eq_some_iff.1 hu).1
  exact h3 _ u (by rw [rowOf_get hs hp hj8]; exact hu)
 obtain ⟨g, rfl, hb, hlt, c0⟩ := hc 0 _ rfl
 have hg : ∀ j u, (slotCells s p)[j]? = some u -> w.cell? ⟨g, i * 8 + j, none⟩ = some u := fun j u hu => by
  obtain ⟨g', e1, _, _, e2⟩ := hc j u hu
  cases e1
  exact e2
 obtain ⟨aa, ac, ka, kc, rfl, l1, l2, v1, v2⟩ := hv i s p hs hp
 refine ⟨g, 0, rfl, hR g rfl hb hlt, aa, ac, ka, kc, ?_⟩
 rw [Nat.zero_add]
 exact ⟨hg 0 _ rfl, hg 1 _ rfl, hg 2 _ rfl, hg 3 _ rfl, hg 4 _ rfl, hg 5 _ rfl, hg 6 _ rfl, hg 7 _ rfl, l1, l2, v1, v2⟩
theorem own_set {w : World} {base : Nat} {e : TypeId} {size : Nat} {g n cap : Nat} {xs : List Value} (h : w.ownsRow base e size (.slice (some ⟨g, 0, none⟩) n cap) n xs) (j : Nat) (u : Value) : (w.setCell ⟨g, j, none⟩ u).ownsRow base e size (.slice (some ⟨g, 0, none⟩) n cap) n (xs.set j u) := by
 refine ⟨by rw [List.length_set]; exact h.1, ?_⟩
 rcases h.2 with ⟨e1, _⟩ | ⟨g', cap', cur, e1, hb, hh, h1, h2, h3, h4⟩
 ·cases e1
 ·simp only [Value.slice.injEq, Option.some.injEq, Addr.mk.injEq, and_true, true_and] at e1
  obtain ⟨rfl, rfl⟩ := e1
  refine .inr ⟨g, cap, cur.setIfInBounds j u, rfl, hb, ?_, h1, h2, by simpa using h3, ?_⟩
  ·simp [World.setCell, Array.getElem?_modify, hh]
  ·rw [Array.toList_setIfInBounds, List.take_set, h4]
theorem own_frozen {w : World} {base : Nat} {e : TypeId} {size : Nat} {g n cap : Nat} {xs : List Value} (h : w.ownsRow base e size (.slice (some ⟨g, 0, none⟩) n cap) n xs) (j : Nat) : w.frozen? ⟨g, j, none⟩ = false := by
 rcases h.2 with ⟨e1, _⟩ | ⟨g', cap', cur, e1, hb, hh, h1, h2, h3, h4⟩
 ·cases e1
 ·simp only [Value.slice.injEq, Option.some.injEq, Addr.mk.injEq, and_true, true_and] at e1
  obtain ⟨rfl, rfl⟩ := e1
  simp [World.frozen?, hh]
theorem info75 : InfoOf Try.prog 77 (.agg #[.int .u32 0, .bool false, .int .i64 0, .string ⟨#[]⟩, .slice none 0 0, .string ⟨#[]⟩, .int .u64 0, .slice none 0 0]) 8 104 := by unfold InfoOf; kernel_rfl
structure RDoc (w : World) (Q : Nat -> Prop) (rb : Nat) (D : Dc) : Prop where
 lt : ∀ b, Q b -> b < w.heap.size
 nrb : ¬ Q rb
 head : ∃ sa scap ra rcap, IsCells w rb #[.slice sa D.S.length scap, .slice ra D.roots.length rcap] /\ D.S.length <= scap /\ D.roots.length <= rcap /\ SlotsAt w Q sa D.S /\ HandsAt w Q ra D.roots
theorem RDoc.rbl {w : World} {Q : Nat -> Prop} {rb : Nat} {D : Dc} (h : RDoc w Q rb D) : rb < w.heap.size := by
 obtain ⟨_, _, _, _, h1, _⟩ := h.head
 exact h1.lt
theorem RDoc.view {w : World} {Q : Nat -> Prop} {rb : Nat} {D : Dc} (h : RDoc w Q rb D) : View w (fun b => Q b \/ b = rb) rb D := by
 obtain ⟨sa, scap, ra, rcap, h1, h2, h3, h4, h5⟩ := h.head
 refine ⟨.inr rfl, fun b hb => ?_, ⟨sa, scap, by rw [h1.cell]; rfl, h2, h4.to (fun _ h => .inl h) (fun _ _ _ => rfl)⟩, ⟨ra, rcap, by rw [h1.cell]; rfl, h3, h5.to (fun _ h => .inl h) (fun _ _ _ => rfl)⟩⟩
 rcases hb with hb | rfl
 ·exact h.lt b hb
 ·exact h1.lt
theorem RDoc.turn {w w' : World} {Q A : Nat -> Prop} {rb : Nat} {D : Dc} (h : RDoc w Q rb D) (ht : Turn A w w') (hA : ∀ b, Q b -> ¬ A b) (hr : ¬ A rb) : RDoc w' Q rb D := by
 obtain ⟨sa, scap, ra, rcap, h1, h2, h3, h4, h5⟩ := h.head
 have hc : ∀ b o, Q b -> w'.cell? ⟨b, o, none⟩ = w.cell? ⟨b, o, none⟩ := fun b o hb => World.cell?_of_block (w := w) (a := ⟨b, o, none⟩) (ht.block b (h.lt b hb) (hA b hb))
 exact ⟨fun b hb => Nat.lt_of_lt_of_le (h.lt b hb) ht.size, h.nrb, sa, scap, ra, rcap, h1.of_block (ht.block rb h1.lt hr), h2, h3, h4.to (fun _ h => h) hc, h5.to (fun _ h => h) hc⟩
theorem below_turn {w w' : World} (h : Below w.heap.size w w') : Turn (fun _ => False) w w' := ⟨h.os, h.tape, h.output, h.size, fun k hk _ => h.block k hk⟩
theorem RDoc.below {w w' : World} {Q : Nat -> Prop} {rb : Nat} {D : Dc} (h : RDoc w Q rb D) (hb : Below w.heap.size w w') : RDoc w' Q rb D := h.turn (below_turn hb) (fun _ _ h => h) (fun h => h)
structure RdS (w : World) (base : Nat) (Q : Nat -> Prop) (rb : Nat) (D : Dc) (g cap : Nat) (ra : Option Addr) (rcap : Nat) (L : List (Value × Value)) : Prop where
 head : IsCells w rb #[.slice (some ⟨g, 0, none⟩) D.S.length cap, .slice ra D.roots.length rcap]
 own : w.ownsRow base 77 8 (.slice (some ⟨g, 0, none⟩) D.S.length cap) D.S.length (rowOf D.S L)
 len : L.length = D.S.length
 vals : ∀ (i : Nat) (s : Sl) (p : Value × Value), D.S[i]? = some s -> L[i]? = some p -> SlotVals w Q s p
 roots : HandsAt w Q ra D.roots
 rlen : D.roots.length <= rcap
 qne : ∀ b, Q b -> b ≠ g /\ b < w.heap.size
 nrb : ¬ Q rb
 rbl : rb < base
theorem RdS.gb {w : World} {base : Nat} {Q : Nat -> Prop} {rb : Nat} {D : Dc} {g cap : Nat} {ra : Option Addr} {rcap : Nat} {L : List (Value × Value)} (h : RdS w base Q rb D g cap ra rcap L) : base <= g /\ g < w.heap.size := own_block_lt h.own g rfl
theorem RdS.bs {w : World} {base : Nat} {Q : Nat -> Prop} {rb : Nat} {D : Dc} {g cap : Nat} {ra : Option Addr} {rcap : Nat} {L : List (Value × Value)} (h : RdS w base Q rb D g cap ra rcap L) : base <= w.heap.size := by
 have := h.gb
 omega
theorem RdS.turn {w w' : World} {base : Nat} {Q A : Nat -> Prop} {rb : Nat} {D : Dc} {g cap : Nat} {ra : Option Addr} {rcap : Nat} {L : List (Value × Value)} (h : RdS w base Q rb D g cap ra rcap L) (ht : Turn A w w') (hA : ∀ b, Q b -> ¬ A b) (hr : ¬ A rb) (hg : ¬ A g) : RdS w' base Q rb D g cap ra rcap L := by
 have hbs := h.bs
 have hc : ∀ b o, Q b -> w'.cell? ⟨b, o, none⟩ = w.cell? ⟨b, o, none⟩ := fun b o hb => World.cell?_of_block (w := w) (a := ⟨b, o, none⟩) (ht.block b (h.qne b hb).2 (hA b hb))
 exact ⟨h.head.of_block (ht.block rb h.head.lt hr), own_of_block h.own (fun k hk => by cases hk; exact ht.block g h.gb.2 hg), h.len, fun i s p hs hp => (h.vals i s p hs hp).to (fun _ h => h) hc, h.roots.to (fun _ h => h) hc, h.rlen, fun b hb => ⟨(h.qne b hb).1, Nat.lt_of_lt_of_le (h.qne b hb).2 ht.size⟩, h.nrb, h.rbl⟩
theorem RdS.below {w w' : World} {base : Nat} {Q : Nat -> Prop} {rb : Nat} {D : Dc} {g cap : Nat} {ra : Option Addr} {rcap : Nat} {L : List (Value × Value)} (h : RdS w base Q rb D g cap ra rcap L) (hb : Below w.heap.size w w') : RdS w' base Q rb D g cap ra rcap L := h.turn (below_turn hb) (fun _ _ h => h) (fun h => h) (fun h => h)
theorem RdS.store {w : World} {base : Nat} {Q : Nat -> Prop} {rb : Nat} {D : Dc} {g cap : Nat} {ra : Option Addr} {rcap : Nat} {L : List (Value × Value)} (h : RdS w base Q rb D g cap ra rcap L) {i j : Nat} {s s' : Sl} {p p' : Value × Value} {u : Value} (hs : D.S[i]? = some s) (hp : L[i]? = some p) (hj : j < 8) (hc : slotCells s' p' = (slotCells s p).set j u)
  (hv : SlotVals w Q s' p') : RdS (w.setCell ⟨g, i * 8 + j, none⟩ u) base Q rb { D with S := D.S.set i s' } g cap ra rcap (L.set i p') := by
 have hgb := h.gb
 have hrb := h.rbl
 have hne : ∀ b, Q b -> b ≠ g := fun b hb => (h.qne b hb).1
 have hcell : ∀ b o, Q b -> (w.setCell ⟨g, i * 8 + j, none⟩ u).cell? ⟨b, o, none⟩ = w.cell? ⟨b, o, none⟩ := fun b o hb => World.cell?_of_block (w := w) (a := ⟨b, o, none⟩) (Below.heap_setCell _ _ _ _ (hne b hb))
 have hi := (List.getElem?_eq_some_iff.1 hs).1
 refine ⟨?_, ?_, by simp [h.len], fun k x y hx hy => ?_, h.roots.to (fun _ h => h) hcell, h.rlen, fun b hb => ⟨(h.qne b hb).1, by simpa [World.setCell] using (h.qne b hb).2⟩, h.nrb, h.rbl⟩
 ·have := h.head.other (a := ⟨g, i * 8 + j, none⟩) (by show rb ≠ g; omega) u
  simpa using this
 ·have := own_set h.own (i * 8 + j) u
  rw [<- rowOf_set h.len hs hp hj hc] at this
  simpa using this
 ·by_cases hk : k = i
  ·subst hk
   rw [List.getElem?_set_self hi] at hx
   rw [List.getElem?_set_self (by rw [h.len]; exact hi)] at hy
   cases hx
   cases hy
   exact hv.to (fun _ h => h) hcell
  ·rw [List.getElem?_set_ne (by omega)] at hx hy
   exact (h.vals k x y hx hy).to (fun _ h => h) hcell
theorem RdS.slot {w : World} {base : Nat} {Q : Nat -> Prop} {rb : Nat} {D : Dc} {g cap : Nat} {ra : Option Addr} {rcap : Nat} {L : List (Value × Value)} (h : RdS w base Q rb D g cap ra rcap L) {i : Nat} {s : Sl} (hs : D.S[i]? = some s) :
  ∃ p, L[i]? = some p /\ SlotVals w Q s p /\ D.S.length <= cap /\ w.cell? ⟨rb, 0, none⟩ = some (.slice (some ⟨g, 0, none⟩) D.S.length cap) /\ ∀ j u, (slotCells s p)[j]? = some u -> w.cell? ⟨g, i * 8 + j, none⟩ = some u /\ w.frozen? ⟨g, i * 8 + j, none⟩ = false := by
 have hi := (List.getElem?_eq_some_iff.1 hs).1
 obtain ⟨p, hp⟩ : ∃ p, L[i]? = some p := ⟨_, List.getElem?_eq_getElem (by rw [h.len]; exact hi)⟩
 obtain ⟨h1, h2, h3⟩ := row_cell h.own
 refine ⟨p, hp, h.vals i s p hs hp, h1, by rw [h.head.cell]; rfl, fun j u hu => ?_⟩
 have hj8 : j < 8 := (List.getElem?_eq_some_iff.1 hu).1
 obtain ⟨g', e1, _, _, e2⟩ := h3 (i * 8 + j) u (by rw [rowOf_get hs hp hj8]; exact hu)
 cases e1
 exact ⟨e2, own_frozen h.own _⟩
structure PdS (w : World) (ro : Nat -> Nat) (db : Nat) (D : Dc) (sa : Option Addr) (scap : Nat) (ra : Option Addr) (rcap : Nat) (L : List (Value × Value)) : Prop where
 head : IsCells w db #[.slice sa D.S.length scap, .slice ra D.roots.length rcap, .int .i64 (cnt Sl.live D.S : Int)]
 slots : w.ownsRow 0 77 8 (.slice sa D.S.length scap) D.S.length (rowOf D.S L)
 roots : w.ownsRow 0 67 1 (.slice ra D.roots.length rcap) D.roots.length (hvals D.roots)
 len : L.length = D.S.length
 vals : ∀ (i : Nat) (s : Sl) (p : Value × Value), D.S[i]? = some s -> L[i]? = some p -> w.ownsRow 0 99 2 p.1 s.attrs.length (attrCells s.attrs) /\ w.ownsRow 0 67 1 p.2 s.kids.length (hvals s.kids)
 rdb : ro db = 1
 rs : ∀ b, (Value.slice sa D.S.length scap).ownBlock = some b -> ro b = 2
 rr : ∀ b, (Value.slice ra D.roots.length rcap).ownBlock = some b -> ro b = 3
 rat : ∀ (i : Nat) (p : Value × Value) (b : Nat), L[i]? = some p -> p.1.ownBlock = some b -> ro b = 2 * i + 4
 rk : ∀ (i : Nat) (p : Value × Value) (b : Nat), L[i]? = some p -> p.2.ownBlock = some b -> ro b = 2 * i + 5
 lt : ∀ b, ro b ≠ 0 -> b < w.heap.size
def PDoc (w : World) (ro : Nat -> Nat) (db : Nat) (D : Dc) : Prop := ∃ sa scap ra rcap L, PdS w ro db D sa scap ra rcap L
theorem hands_row {w : World} {R : Nat -> Prop} {base : Nat} {e : TypeId} {v : Value} {l : List Nat} (h : w.ownsRow base e 1 v l.length (hvals l)) (hR : ∀ b, v.ownBlock = some b -> R b) : ∃ a cap, v = .slice a l.length cap /\ l.length <= cap /\ HandsAt w R a l := by
 obtain ⟨a, cap, rfl⟩ := own_slice h
 obtain ⟨h1, _, h3⟩ := row_cell h
 refine ⟨a, cap, rfl, h1, fun i x hx => ?_⟩
 obtain ⟨g, rfl, _, _, hc⟩ := h3 i (.int .u64 (x : Int)) (by simp [hvals, hx])
 exact ⟨g, 0, rfl, hR g rfl, by rw [Nat.zero_add]; exact hc⟩
theorem attrs_row' {w : World} {R : Nat -> Prop} {base : Nat} {e : TypeId} {v : Value} {l : List (ByteArray × ByteArray)} (h : w.ownsRow base e 2 v l.length (attrCells l)) (hR : ∀ b, v.ownBlock = some b -> R b) : ∃ a cap, v = .slice a l.length cap /\ l.length <= cap /\ AttrsR w R a l := by
 obtain ⟨a, cap, rfl⟩ := own_slice h
 obtain ⟨h1, _, h3⟩ := attrs_row h rfl
 exact ⟨a, cap, rfl, h3, h1.to (fun b hb => hR b hb.1) (fun _ _ _ => rfl)⟩
theorem PdS.slotVals {w : World} {ro : Nat -> Nat} {db : Nat} {D : Dc} {sa : Option Addr} {scap : Nat} {ra : Option Addr} {rcap : Nat} {L : List (Value × Value)} (h : PdS w ro db D sa scap ra rcap L) {i : Nat} {s : Sl} {p : Value × Value} (hs : D.S[i]? = some s) (hp : L[i]? = some p) : SlotVals w (fun b => ro b ≠ 0) s p := by
 obtain ⟨h1, h2⟩ := h.vals i s p hs hp
 obtain ⟨aa, ac, e1, l1, v1⟩ := attrs_row' (R := fun b => ro b ≠ 0) h1 (fun b hb => by rw [h.rat i p b hp hb]; omega)
 obtain ⟨ka, kc, e2, l2, v2⟩ := hands_row (R := fun b => ro b ≠ 0) h2 (fun b hb => by rw [h.rk i p b hp hb]; omega)
 exact ⟨aa, ac, ka, kc, by rw [<- e1, <- e2], l1, l2, v1, v2⟩
theorem PdS.view {w : World} {ro : Nat -> Nat} {db : Nat} {D : Dc} {sa : Option Addr} {scap : Nat} {ra : Option Addr} {rcap : Nat} {L : List (Value × Value)} (h : PdS w ro db D sa scap ra rcap L) : View w (fun b => ro b ≠ 0) db D := by
 obtain ⟨h1, _, h3⟩ := slots_row (R := fun b => ro b ≠ 0) h.len h.slots (fun i s p hs hp => h.slotVals hs hp) (fun g e _ _ => by subst e; rw [h.rs g rfl]; omega)
 obtain ⟨a, cap, e, l, hr⟩ := hands_row (R := fun b => ro b ≠ 0) h.roots (fun b hb => by rw [h.rr b hb]; omega)
 simp only [Value.slice.injEq, true_and] at e
 obtain ⟨rfl, rfl⟩ := e
 exact ⟨by show ro db ≠ 0; rw [h.rdb]; omega, h.lt, ⟨sa, scap, by rw [h.head.cell]; rfl, h3, h1⟩, ⟨ra, rcap, by rw [h.head.cell]; rfl, l, hr⟩⟩
theorem PDoc.view {w : World} {ro : Nat -> Nat} {db : Nat} {D : Dc} (h : PDoc w ro db D) : View w (fun b => ro b ≠ 0) db D := by
 obtain ⟨_, _, _, _, _, h⟩ := h
 exact h.view
theorem PdS.of_blocks {w w' : World} {ro : Nat -> Nat} {db : Nat} {D : Dc} {sa : Option Addr} {scap : Nat} {ra : Option Addr} {rcap : Nat} {L : List (Value × Value)} (h : PdS w ro db D sa scap ra rcap L) (hb : ∀ b, ro b ≠ 0 -> w'.heap[b]? = w.heap[b]?) (hs : w.heap.size <= w'.heap.size) : PdS w' ro db D sa scap ra rcap L := by
 refine ⟨h.head.of_block (hb db (by rw [h.rdb]; omega)), own_of_block h.slots (fun k hk => hb k (by rw [h.rs k hk]; omega)), own_of_block h.roots (fun k hk => hb k (by rw [h.rr k hk]; omega)), h.len, fun i s p hs' hp => ?_, h.rdb, h.rs, h.rr, h.rat, h.rk, fun b hb' => Nat.lt_of_lt_of_le (h.lt b hb') hs⟩
 obtain ⟨h1, h2⟩ := h.vals i s p hs' hp
 exact ⟨own_of_block h1 (fun k hk => hb k (by rw [h.rat i p k hp hk]; omega)), own_of_block h2 (fun k hk => hb k (by rw [h.rk i p k hp hk]; omega))⟩
theorem PdS.below {w w' : World} {ro : Nat -> Nat} {db : Nat} {D : Dc} {sa : Option Addr} {scap : Nat} {ra : Option Addr} {rcap : Nat} {L : List (Value × Value)} (h : PdS w ro db D sa scap ra rcap L) (hb : Below w.heap.size w w') : PdS w' ro db D sa scap ra rcap L :=
 h.of_blocks (fun b hb' => hb.block b (h.lt b hb')) hb.size
theorem PDoc.turn {w w' : World} {ro : Nat -> Nat} {A : Nat -> Prop} {db : Nat} {D : Dc} (h : PDoc w ro db D) (ht : Turn A w w') (hA : ∀ b, ro b ≠ 0 -> ¬ A b) : PDoc w' ro db D := by
 obtain ⟨sa, scap, ra, rcap, L, h⟩ := h
 exact ⟨sa, scap, ra, rcap, L, h.of_blocks (fun b hb' => ht.block b (h.lt b hb') (hA b hb')) ht.size⟩
theorem PdS.slot {w : World} {ro : Nat -> Nat} {db : Nat} {D : Dc} {sa : Option Addr} {scap : Nat} {ra : Option Addr} {rcap : Nat} {L : List (Value × Value)} (h : PdS w ro db D sa scap ra rcap L) {i : Nat} {s : Sl} (hs : D.S[i]? = some s) :
  ∃ g p, sa = some ⟨g, 0, none⟩ /\ ro g = 2 /\ L[i]? = some p /\ D.S.length <= scap /\ w.cell? ⟨db, 0, none⟩ = some (.slice (some ⟨g, 0, none⟩) D.S.length scap) /\ ∀ j u, (slotCells s p)[j]? = some u -> w.cell? ⟨g, i * 8 + j, none⟩ = some u /\ w.frozen? ⟨g, i * 8 + j, none⟩ = false := by
 have hi := (List.getElem?_eq_some_iff.1 hs).1
 obtain ⟨p, hp⟩ : ∃ p, L[i]? = some p := ⟨_, List.getElem?_eq_getElem (by rw [h.len]; exact hi)⟩
 obtain ⟨h1, h2, h3⟩ := row_cell h.slots
 obtain ⟨g, e, _, _, _⟩ := h3 (i * 8 + 0) _ (by rw [rowOf_get hs hp (by omega)]; rfl)
 subst e
 refine ⟨g, p, rfl, h.rs g rfl, hp, h1, by rw [h.head.cell]; rfl, fun j u hu => ?_⟩
 have hj8 : j < 8 := (List.getElem?_eq_some_iff.1 hu).1
 obtain ⟨g', e1, _, _, e2⟩ := h3 (i * 8 + j) u (by rw [rowOf_get hs hp hj8]; exact hu)
 cases e1
 exact ⟨e2, own_frozen h.slots _⟩
theorem cnt_set {f : Sl -> Bool} {S : List Sl} {i : Nat} {s s' : Sl} (hs : S[i]? = some s) (hf : f s' = f s) : cnt f (S.set i s') = cnt f S := by
 unfold cnt
 have hi := (List.getElem?_eq_some_iff.1 hs).1
 have hsp : S = S.take i ++ s :: S.drop (i + 1) := by
  rw [<- (List.getElem?_eq_some_iff.1 hs).2, <- List.drop_eq_getElem_cons hi, List.take_append_drop]
 have hst : S.set i s' = S.take i ++ s' :: S.drop (i + 1) := by
  rw [List.set_eq_take_append_cons_drop, if_pos hi]
 rw [hst]
 conv => rhs; rw [hsp]
 rw [List.filter_append, List.filter_append, List.filter_cons, List.filter_cons, hf]
 split <;> simp
theorem PdS.store {w : World} {ro : Nat -> Nat} {db : Nat} {D : Dc} {g scap : Nat} {ra : Option Addr} {rcap : Nat} {L : List (Value × Value)} (h : PdS w ro db D (some ⟨g, 0, none⟩) scap ra rcap L) {i j : Nat} {s s' : Sl} {p : Value × Value} {u : Value} (hs : D.S[i]? = some s) (hp : L[i]? = some p) (hj : j < 8) (hc : slotCells s' p = (slotCells s p).set j u)
  (h1 : s'.attrs = s.attrs) (h2 : s'.kids = s.kids) (h3 : s'.live = s.live) : PdS (w.setCell ⟨g, i * 8 + j, none⟩ u) ro db { D with S := D.S.set i s' } (some ⟨g, 0, none⟩) scap ra rcap (L.set i p) := by
 have hg : ro g = 2 := h.rs g rfl
 have hi := (List.getElem?_eq_some_iff.1 hs).1
 have hLs : L.set i p = L := by
  apply List.ext_getElem?
  intro m
  by_cases e : m = i
  ·subst e; rw [List.getElem?_set_self (by rw [h.len]; exact hi), hp]
  ·rw [List.getElem?_set_ne (by omega)]
 have hblk : ∀ b, ro b ≠ 2 -> (w.setCell ⟨g, i * 8 + j, none⟩ u).heap[b]? = w.heap[b]? := fun b hb => Below.heap_setCell _ _ _ _ (by show b ≠ g; rintro rfl; exact hb hg)
 refine ⟨?_, ?_, own_of_block h.roots (fun k hk => hblk k (by rw [h.rr k hk]; omega)), by simp [h.len], fun k x y hx hy => ?_, h.rdb, by simpa using h.rs, h.rr, ?_, ?_, fun b hb => by simpa [World.setCell] using h.lt b hb⟩
 ·have := h.head.of_block (hblk db (by rw [h.rdb]; omega))
  rw [show cnt Sl.live ({ D with S := D.S.set i s' } : Dc).S = cnt Sl.live D.S from cnt_set hs h3]
  simpa using this
 ·have := own_set h.slots (i * 8 + j) u
  rw [<- rowOf_set h.len hs hp hj hc] at this
  simpa using this
 ·rw [hLs] at hy
  by_cases hk : k = i
  ·subst hk
   rw [List.getElem?_set_self hi] at hx
   cases hx
   rw [hp] at hy
   cases hy
   obtain ⟨v1, v2⟩ := h.vals k s p hs hp
   rw [h1, h2]
   exact ⟨own_of_block v1 (fun b hb => hblk b (by rw [h.rat k p b hp hb]; omega)), own_of_block v2 (fun b hb => hblk b (by rw [h.rk k p b hp hb]; omega))⟩
  ·rw [List.getElem?_set_ne (by omega)] at hx
   obtain ⟨v1, v2⟩ := h.vals k x y hx hy
   exact ⟨own_of_block v1 (fun b hb => hblk b (by rw [h.rat k y b hy hb]; omega)), own_of_block v2 (fun b hb => hblk b (by rw [h.rk k y b hy hb]; omega))⟩
 ·rw [hLs]; exact h.rat
 ·rw [hLs]; exact h.rk
end Go.Proofs.Ytmapmkogjhinmaa
/- Where a handle stands in a list: slices.Index and the document's find. -/
namespace Go.Proofs.Ytmapmkogjhinmaa
open Go.RowKit
set_option maxRecDepth 100000
set_option maxHeartbeats 1000000
set_option linter.unusedVariables false
set_option linter.unusedSimpArgs false
def idxH (l : List Nat) (h : Nat) : Int := match l.findIdx? (fun y => y == h) with | some k => (k : Int) | none => -1
theorem idxH_of {l : List Nat} {h k : Nat} (hk : l[k]? = some h) (hno : ∀ j x, j < k -> l[j]? = some x -> x ≠ h) : idxH l h = (k : Int) := by
 have hlt := (List.getElem?_eq_some_iff.1 hk).1
 have : l.findIdx? (fun y => y == h) = some k := by
  rw [List.findIdx?_eq_some_iff_getElem]
  refine ⟨hlt, ?_, fun j hj => ?_⟩
  ·have := (List.getElem?_eq_some_iff.1 hk).2
   simp [this]
  ·have := hno j l[j] hj (List.getElem?_eq_getElem (by omega))
   simpa using this
 simp [idxH, this]
theorem idxH_none {l : List Nat} {h : Nat} (hno : ∀ (j : Nat) (x : Nat), l[j]? = some x -> x ≠ h) : idxH l h = -1 := by
 have : l.findIdx? (fun y => y == h) = none := by
  rw [List.findIdx?_eq_none_iff]
  intro x hx
  obtain ⟨j, hj⟩ := List.getElem?_of_mem hx
  have := hno j x hj
  simpa using this
 simp [idxH, this]
theorem idxH_mem {l : List Nat} {h : Nat} (hm : h ∈ l) : ∃ k : Nat, idxH l h = (k : Int) /\ l[k]? = some h /\ k < l.length := by
 cases hf : l.findIdx? (fun y => y == h) with
 | none =>
  rw [List.findIdx?_eq_none_iff] at hf
  have := hf h hm
  simp at this
 | some k =>
  rw [List.findIdx?_eq_some_iff_getElem] at hf
  obtain ⟨h1, h2, _⟩ := hf
  have e : l.findIdx? (fun y => y == h) = some k := by rw [List.findIdx?_eq_some_iff_getElem]; exact ⟨h1, h2, by assumption⟩
  refine ⟨k, by simp [idxH, e], ?_, h1⟩
  rw [List.getElem?_eq_getElem h1]
  simpa using h2
theorem index_any (w : World) (R : Nat -> Prop) (a : Option Addr) (l : List Nat) (cap h : Nat) (hat : HandsAt w R a l) (hl : l.length <= 1000000) (z : Int) (hz : idxH l h = z) :
  Calls Try.prog 53 #[.slice a l.length cap, .int .u64 (h : Int)] w fun e w' => e = .returned (.int .i64 z) /\ w' = w := by
 have HC : Hid (HandsAt w R a l) := hat
 have HZ : Hid (idxH l h = z) := hz
 clear hat hz
 go_enter Try.func53, Try.ntmps53
 go_wp2
 go_loop [5, 8] (fun _ i => ∃ k : Nat, k <= l.length /\ i = .int .i64 (k : Int) /\ Hid (∀ (j x : Nat), j < k -> l[j]? = some x -> x ≠ h)) (fun _ i => l.length - (intOf i).toNat)
 case atStart => exact ⟨0, Nat.zero_le _, rfl, fun j x hj => by omega⟩
 case round =>
  obtain ⟨k, hk, rfl, hno⟩ := hrel
  by_cases hlt : k < l.length
  ·obtain ⟨x, hx⟩ : ∃ x, l[k]? = some x := ⟨_, List.getElem?_eq_getElem hlt⟩
   obtain ⟨b, o, ha, -, hcell⟩ := HC.out k x hx
   subst ha
   by_cases he : x = h
   ·have hans : Hid ((k : Int) = z) := by
     show _ = _
     rw [<- HZ.out]
     exact (idxH_of (by rw [hx, he]) hno.out).symm
    have hb : ((h : Int) == (x : Int)) = true := by simp [he]
    have HE : Hid (x = h) := he
    clear he hx HZ
    go_wp2
    go_ret
    exact ⟨congrArg _ (v_int hans.out), rfl⟩
   ·have hb : ((h : Int) == (x : Int)) = false := by simp; omega
    have HX : Hid (l[k]? = some x) := hx
    have HE : Hid (x ≠ h) := he
    clear hx he
    go_wp2
    go_round
    case rel =>
     refine ⟨k + 1, by omega, by go_num, fun j y hj hy => ?_⟩
     by_cases e : j = k
     ·subst e
      rw [HX.out] at hy
      cases hy
      exact HE.out
     ·exact hno.out j y (by omega) hy
    case measure => simp [intOf]; omega
  ·have hans : Hid (-1 = z) := by
    show _ = _
    rw [<- HZ.out]
    exact (idxH_none (fun j x hj => hno.out j x (by have := (List.getElem?_eq_some_iff.1 hj).1; omega) hj)).symm
   go_wp2
   go_ret
   exact ⟨congrArg _ (v_int hans.out), rfl⟩
def setL (D : Dc) (p : Nat) (l' : List Nat) : Dc :=
 if p = 0 then { D with roots := l' } else match atI D.S p with
  | none => D
  | some i => match D.S[i]? with
   | none => D
   | some s => { D with S := D.S.set i { s with kids := l' } }
attribute [local go_sem] Bel.cell Bel.fz
def sliceAt (b o c k : Nat) : Option Addr := if c = k then some ⟨b, o, none⟩ else some ⟨b, o + k, none⟩
theorem ite_sliceAt (b o c k : Nat) : (if c = k then some (⟨b, o, none⟩ : Addr) else some ⟨b, o + k, none⟩) = sliceAt b o c k := rfl
attribute [local go_sem] ite_sliceAt
theorem HandsAt.part {w W : World} {R : Nat -> Prop} {b o : Nat} {l : List Nat} (h : HandsAt w R (some ⟨b, o, none⟩) l) (hW : ∀ b o, R b -> W.cell? ⟨b, o, none⟩ = w.cell? ⟨b, o, none⟩) (k : Nat) (m : List Nat) (hm : ∀ j x, m[j]? = some x -> l[k + j]? = some x) : ∀ j u, (hvals m)[j]? = some u -> ∃ ad, some (⟨b, o + k, none⟩ : Addr) = some ad /\ W.cell? (ad.add j) = some u := by
 intro j u hu
 simp only [hvals, List.getElem?_map, Option.map_eq_some_iff] at hu
 obtain ⟨x, hx, rfl⟩ := hu
 obtain ⟨b', o', e, hR, hc⟩ := h (k + j) x (hm j x hx)
 simp only [Option.some.injEq, Addr.mk.injEq, and_true] at e
 obtain ⟨rfl, rfl⟩ := e
 refine ⟨_, rfl, ?_⟩
 rw [addr_plus, Nat.add_assoc, hW _ _ hR]
 exact hc
theorem info128 : InfoOf Try.prog 99 (.agg #[.string ⟨#[]⟩, .string ⟨#[]⟩]) 2 32 := by unfold InfoOf; kernel_rfl
def FrP (w : World) (e : TypeId) (size n : Nat) (xs : List Value) (en : Ending) (w' : World) : Prop :=
 ∃ a cap, en = .returned (.slice a n cap) /\ w'.ownsRow w.heap.size e size (.slice a n cap) n xs /\ Below w.heap.size w w'
theorem HandsAt.news {w : World} {R : Nat -> Prop} {a : Option Addr} {l : List Nat} (h : HandsAt w R a l) : ∀ j u, (hvals l)[j]? = some u -> ∃ ad, a = some ad /\ w.cell? (ad.add j) = some u := by
 intro j u hu
 simp only [hvals, List.getElem?_map, Option.map_eq_some_iff] at hu
 obtain ⟨x, hx, rfl⟩ := hu
 obtain ⟨b, o, e, _, hc⟩ := h j x hx
 exact ⟨_, e, by rw [addr_plus]; exact hc⟩
theorem AttrsR.news {w : World} {R : Nat -> Prop} {a : Option Addr} {l : List (ByteArray × ByteArray)} (h : AttrsR w R a l) : ∀ j u, (attrCells l)[j]? = some u -> ∃ ad, a = some ad /\ w.cell? (ad.add j) = some u := by
 intro j u hu
 have hlt := (List.getElem?_eq_some_iff.1 hu).1
 rw [attrCells_length] at hlt
 obtain ⟨p, hp⟩ : ∃ p, l[j / 2]? = some p := ⟨_, List.getElem?_eq_getElem (by omega)⟩
 obtain ⟨b, o, rfl, _, h1, h2⟩ := h _ p hp
 obtain ⟨g1, g2⟩ := attrCells_get l _ p hp
 refine ⟨_, rfl, ?_⟩
 rw [addr_plus]
 rcases Nat.mod_two_eq_zero_or_one j with e | e
 ·have ej : j / 2 * 2 = j := by omega
  rw [ej] at g1 h1
  rw [hu] at g1
  rw [h1, Option.some.inj g1]
 ·have ej : j / 2 * 2 + 1 = j := by omega
  rw [ej] at g2
  rw [Nat.add_assoc, ej] at h2
  rw [hu] at g2
  rw [h2, Option.some.inj g2]
theorem freshA_any (w : World) (R : Nat -> Prop) (a : Option Addr) (l : List (ByteArray × ByteArray)) (cap : Nat) (h : AttrsR w R a l) (hl : l.length <= 1000000) :
  Calls Try.prog 51 #[.slice a l.length cap] w (FrP w 99 2 l.length (attrCells l)) := by
 have HN : Hid (∀ j u, (attrCells l)[j]? = some u -> ∃ ad, a = some ad /\ w.cell? (ad.add j) = some u) := h.news
 have HL : Hid ((attrCells l).length = l.length * 2) := attrCells_length l
 clear h
 have tok : True := trivial
 go_enter Try.func51, Try.ntmps51
 go_wp2_with (at_builtin; have _t := tok; refine wpList_app rfl _ _ rfl Try.underlying34 info128 rfl (by decide) w.heap.size (.slice none 0 0) 0 [] rfl (own_nil _ _ _ _) a l.length cap (attrCells l) rfl HL.out HN.out (attrCells_one _) (by unfold maxLen; omega) (by omega) (Nat.le_refl _) ?_; intro v1 w1 hown1 hg1 _ hat1; clear tok _t; obtain ⟨va, vc, hv1⟩ := own_slice hown1; subst hv1; rw [Nat.zero_add, List.nil_append] at hown1; rw [Nat.zero_add]; have HO : Hid (w1.ownsRow w.heap.size 99 2 (.slice va l.length vc) l.length (attrCells l)) := hown1; have HB : Hid (Below w.heap.size w w1) := (Below.refl _ _).grown hg1 (Nat.le_refl _) (fun k hk => by cases hk); clear hown1 hg1 hat1)
 go_ret
 exact ⟨va, vc, rfl, HO.out, HB.out⟩
theorem plen_any (w : World) (ro : Nat -> Nat) (db : Nat) (D : Dc) (h : PDoc w ro db D) :
  Calls Try.prog 8 #[.pointer (some ⟨db, 0, none⟩)] w fun e w' => e = .returned (.int .i64 (cnt Sl.live D.S : Int)) /\ w' = w := by
 obtain ⟨sa, scap, ra, rcap, L, hp⟩ := h
 have hc := hp.head.cell
 clear hp
 go_enter Try.func8, Try.ntmps8
 go_wp2
 go_ret
 exact ⟨rfl, rfl⟩
theorem sliceAt_zero (b o c : Nat) : sliceAt b o c 0 = some ⟨b, o, none⟩ := by unfold sliceAt; split <;> rfl
attribute [local go_sem] ite_sliceAt sliceAt_zero
def ins (l : List Nat) (k n : Nat) : List Nat := l.take k ++ [n] ++ l.drop k
def setPar (D : Dc) (n p : Nat) : Dc := match atI D.S n with
 | none => D
 | some i => match D.S[i]? with
  | none => D
  | some s => { D with S := D.S.set i { s with parent := p } }
theorem RdS.setPar {w : World} {base : Nat} {Q : Nat -> Prop} {rb : Nat} {D : Dc} {g cap : Nat} {ra : Option Addr} {rcap : Nat} {L : List (Value × Value)} (h : RdS w base Q rb D g cap ra rcap L) {i : Nat} {s : Sl} {q : Value × Value} (hs : D.S[i]? = some s) (hq : L[i]? = some q) (p : Nat) :
  RdS (w.setCell ⟨g, i * 8 + 6, none⟩ (.int .u64 (p : Int))) base Q rb { D with S := D.S.set i { s with parent := p } } g cap ra rcap (L.set i q) :=
 h.store hs hq (by omega) rfl (h.vals i s q hs hq)
attribute [local go_sem] ite_sliceAt sliceAt_zero
def whereN (l : List Nat) (wh : Int) (a : Nat) : Nat := if wh = 2 then l.length else if wh = 3 then (idxH l a).toNat else if wh = 4 then (idxH l a).toNat + 1 else 0
theorem atI_set_same {S : List Sl} {i j h : Nat} {s s' : Sl} (hs : S[i]? = some s) (hl : s'.live = s.live) (hg : s'.gen = s.gen) : atI (S.set i s') h = atI S h := by
 unfold atI
 by_cases h0 : h % 4294967296 = 0
 ·rw [if_pos h0, if_pos h0]
 ·rw [if_neg h0, if_neg h0]
  by_cases e : i = h % 4294967296 - 1
  ·rw [<- e, List.getElem?_set_self (List.getElem?_eq_some_iff.1 hs).1, hs]
   simp only [hl, hg]
  ·rw [List.getElem?_set_ne e]
theorem Fits.setL {D : Dc} (hf : Fits D) (p : Nat) (l' : List Nat) : Fits (setL D p l') := by
 unfold Ytmapmkogjhinmaa.setL
 split
 ·exact ⟨hf.len, hf.gen⟩
 ·split
  ·exact hf
  ·rename_i i ha
   split
   ·exact hf
   ·rename_i s hs
    refine ⟨by simpa using hf.len, fun j t ht => ?_⟩
    by_cases e : i = j
    ·subst e
     have ht' : (D.S.set i { s with kids := l' })[i]? = some t := ht
     rw [List.getElem?_set_self (List.getElem?_eq_some_iff.1 hs).1] at ht'
     cases ht'
     exact hf.gen i s hs
    ·have ht' : (D.S.set i { s with kids := l' })[j]? = some t := ht
     rw [List.getElem?_set_ne e] at ht'
     exact hf.gen j t ht'
theorem SlotVals.set {w : World} {Q : Nat -> Prop} {s : Sl} {p : Value × Value} (h : SlotVals w Q s p) {g o : Nat} {u : Value} (hq : ∀ b, Q b -> b ≠ g) : SlotVals (w.setCell ⟨g, o, none⟩ u) Q s p :=
 h.to (fun _ h => h) (fun b o' hb => World.cell?_of_block (w := w) (a := ⟨b, o', none⟩) (Below.heap_setCell _ _ _ _ (hq b hb)))
theorem not_mem_take {A : List Nat} (h : A.Nodup) {j x : Nat} (hx : A[j]? = some x) : x ∉ A.take j := by
 intro hm
 obtain ⟨k, hk⟩ := List.getElem?_of_mem hm
 have hkj : k < j := by have := (List.getElem?_eq_some_iff.1 hk).1; simp at this; omega
 rw [List.getElem?_take_of_lt hkj] at hk
 have := (List.getElem?_inj (List.getElem?_eq_some_iff.1 hk).1 h).1 (hk.trans hx.symm)
 omega
end Go.Proofs.Ytmapmkogjhinmaa
