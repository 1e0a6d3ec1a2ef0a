/- A node in plain, by the program: plain, Subtree, Forest. -/
import Derived.Test.YtnhajpeijkbbeaaGreatA22
import Derived.Laws.OwnMore
import Derived.Deep.DeepCutAuto
namespace Go.Proofs.YtnhajpeijkbbeaaGreat
open Go.RowKit
set_option maxRecDepth 100000
set_option maxHeartbeats 2000000
set_option linter.unusedVariables false
set_option linter.unusedSimpArgs false
theorem pl_end {w w3 w' : World} {s : Sl} {m W0s X : Nat} {L : List (T m)} {a1 la : Option Addr} {c1 lcap : Nat} (hX : W0s <= X) (hXl : X + 1 <= w3.heap.size) (hs0 : W0s = w.heap.size + 2) (hal : s.attrs.length <= 32) (hkl : L.length <= 4096) (hc1 : s.attrs.length <= c1) (hlc : L.length <= lcap)
  (hat : AttrsR w3 (fun b => Fw w3 W0s b /\ b < X) a1 s.attrs) (hfor : ForR w3 (Fw w3 (X + 1)) m la L) (hb : Below w.heap.size w w3) (ht : Turn (fun b => b = w.heap.size + 1 \/ b = X) w3 w') :
  TreeR w' (Fw w' w.heap.size) (m + 1) #[.int .i64 s.kind, .string s.name, .slice a1 s.attrs.length c1, .string s.text, .slice la L.length lcap] (mkN s L : Nd (T m)) /\ Below w.heap.size w w' := by
 have hs := ht.size
 have hblk : ∀ b, b < w3.heap.size -> b ≠ w.heap.size + 1 -> b ≠ X -> w'.heap[b]? = w3.heap[b]? := fun b h1 h2 h3 => ht.block b h1 (by omega)
 have hcell : ∀ b o, b < w3.heap.size -> b ≠ w.heap.size + 1 -> b ≠ X -> w'.cell? ⟨b, o, none⟩ = w3.cell? ⟨b, o, none⟩ := fun b o h1 h2 h3 => World.cell?_of_block (w := w3) (a := ⟨b, o, none⟩) (hblk b h1 h2 h3)
 refine ⟨⟨a1, c1, la, lcap, rfl, by show s.attrs.length <= maxA; unfold maxA; omega, by show L.length <= maxK; unfold maxK; omega, hc1, hlc, hat.to (fun b hb => ?_) (fun b o hb => ?_), ?_⟩, hb.trans (ht.below (by omega) (fun k hk => by omega))⟩
 ·have := hb.1.1
  exact hb.1.to (by omega) (hblk b hb.1.2.1 (by omega) (by omega)) hs
 ·have := hb.1.1
  exact hcell b o hb.1.2.1 (by omega) (by omega)
 ·exact hfor.to (w' := w') (R' := Fw w' w.heap.size) (fun b hb => by
   have := hb.1
   exact hb.to (by omega) (hblk b hb.2.1 (by omega) (by omega)) hs) (fun b o hb => by
   have := hb.1
   exact hcell b o hb.2.1 (by omega) (by omega))
theorem plain_walk (w : World) (R : Nat -> Prop) (db : Nat) (s : Sl) (m : Nat) (L : List (T m)) (aa : Option Addr) (ac : Nat) (ka : Option Addr) (kc : Nat) (hat : AttrsR w R aa s.attrs) (hR : ∀ b, R b -> b < w.heap.size) (hal : s.attrs.length <= 32) (hkl : L.length <= 4096)
  (hK : ∀ W, Below w.heap.size w W -> Calls Tryz.prog 100 #[.pointer (some ⟨db, 0, none⟩), .slice ka s.kids.length kc] W (FoP W m L)) :
  Calls Tryz.prog 80 #[.pointer (some ⟨db, 0, none⟩), .agg (slv s aa ac ka kc)] w (PlP w (m + 1) (mkN s L : Nd (T m))) := by
 obtain ⟨W0, hW0⟩ : ∃ W0, W0 = ((w.alloc (.cells #[.int .u32 (s.gen : Int), .bool s.live, .int .i64 s.kind, .string s.name, .slice aa s.attrs.length ac, .string s.text, .int .u64 (s.parent : Int), .slice ka s.kids.length kc] 75)).alloc (.cells #[.int .i64 0, .string ⟨#[]⟩, .slice none 0 0, .string ⟨#[]⟩, .slice none 0 0] 46)) := ⟨_, rfl⟩
 have HB0 : Hid (Below w.heap.size w W0) := by rw [hW0]; exact (below_new' w _).alloc (by simp) _
 have hs0 : W0.heap.size = w.heap.size + 2 := by rw [hW0]; simp
 have HX1 : Hid (IsCells W0 w.heap.size #[.int .u32 (s.gen : Int), .bool s.live, .int .i64 s.kind, .string s.name, .slice aa s.attrs.length ac, .string s.text, .int .u64 (s.parent : Int), .slice ka s.kids.length kc]) := by rw [hW0]; exact (isCells_new w _ 75).alloc _
 have HX2 : Hid (IsCells W0 (w.heap.size + 1) #[.int .i64 0, .string ⟨#[]⟩, .slice none 0 0, .string ⟨#[]⟩, .slice none 0 0]) := by
  show IsCells _ _ _
  rw [hW0]
  have := isCells_new (w.alloc (.cells #[.int .u32 (s.gen : Int), .bool s.live, .int .i64 s.kind, .string s.name, .slice aa s.attrs.length ac, .string s.text, .int .u64 (s.parent : Int), .slice ka s.kids.length kc] 75)) #[.int .i64 0, .string ⟨#[]⟩, .slice none 0 0, .string ⟨#[]⟩, .slice none 0 0] 46
  simpa using this
 have hbare := bare_own W0 R s aa ac ka s.kids.length kc (hat.to (fun _ h => h) (fun b o hb => HB0.out.cell (p := ⟨b, o, none⟩) (hR b hb))) (fun b hb => by have := hR b hb; omega) (by omega)
 have HW0 : Hid (W0 = ((w.alloc (.cells #[.int .u32 (s.gen : Int), .bool s.live, .int .i64 s.kind, .string s.name, .slice aa s.attrs.length ac, .string s.text, .int .u64 (s.parent : Int), .slice ka s.kids.length kc] 75)).alloc (.cells #[.int .i64 0, .string ⟨#[]⟩, .slice none 0 0, .string ⟨#[]⟩, .slice none 0 0] 46))) := hW0
 have HK : Hid (∀ W, Below w.heap.size w W -> Calls Tryz.prog 100 #[.pointer (some ⟨db, 0, none⟩), .slice ka s.kids.length kc] W (FoP W m L)) := hK
 clear hW0 hat hR hK
 unfold slv
 go_enter Tryz.func80, Tryz.ntmps80
 go_wp2_with fail
 rw [<- HW0.out]
 clear HW0
 refine hbare.mono ?_
 rintro e w1 ⟨a1, c1, rfl, hc1, hat1, hb1⟩
 have hs1 := hb1.size
 have HB1 : Hid (Below w.heap.size w w1) := HB0.out.trans (hb1.mono (by omega))
 have HX1' : Hid (IsCells w1 w.heap.size #[.int .u32 (s.gen : Int), .bool s.live, .int .i64 s.kind, .string s.name, .slice aa s.attrs.length ac, .string s.text, .int .u64 (s.parent : Int), .slice ka s.kids.length kc]) := HX1.out.of_block (hb1.block _ (by omega))
 have HX2' : Hid (IsCells w1 (w.heap.size + 1) #[.int .i64 0, .string ⟨#[]⟩, .slice none 0 0, .string ⟨#[]⟩, .slice none 0 0]) := HX2.out.of_block (hb1.block _ (by omega))
 have HAT1 : Hid (AttrsR w1 (Fw w1 W0.heap.size) a1 s.attrs) := hat1
 have hk7 : w1.cell? ⟨w.heap.size, 7, none⟩ = some (.slice ka s.kids.length kc) := HX1'.out.cell 7
 have hcal := HK.out (w1.alloc (.cells #[.int .i64 s.kind, .string s.name, .slice a1 s.attrs.length c1, .string s.text, .slice none 0 0] 46)) (HB1.out.alloc (by omega) _)
 have hwl : w.heap.size < w1.heap.size := by omega
 unfold tv
 clear hb1 hbare hat1 HX1 HX2
 go_wp2_with fail
 refine hcal.mono ?_
 rintro e w3 ⟨la, lcap, rfl, hlc, hfor, hb3⟩
 have hs3 : w1.heap.size + 1 <= w3.heap.size := by have := hb3.size; simpa using this
 have HBX : Hid (IsCells w3 w1.heap.size #[.int .i64 s.kind, .string s.name, .slice a1 s.attrs.length c1, .string s.text, .slice none 0 0]) := (isCells_new w1 _ 46).of_block (hb3.block _ (by simp))
 have HRS : Hid (IsCells w3 (w.heap.size + 1) #[.int .i64 0, .string ⟨#[]⟩, .slice none 0 0, .string ⟨#[]⟩, .slice none 0 0]) := (HX2'.out.alloc _).of_block (hb3.block _ (by simp; omega))
 have HB3 : Hid (Below w.heap.size w w3) := (HB1.out.alloc (by omega) _).trans (hb3.mono (by simp; omega))
 have HAT3 : Hid (AttrsR w3 (fun b => Fw w3 W0.heap.size b /\ b < w1.heap.size) a1 s.attrs) := HAT1.out.to (fun b hb => ⟨(hb.below (below_new' w1 _) (Nat.le_refl _)).below hb3 (Nat.le_refl _), hb.2.1⟩) (fun b o hb => (hb3.cell (p := ⟨b, o, none⟩) (by show b < _; have := hb.2.1; simp; omega)).trans ((below_new' w1 _).cell (p := ⟨b, o, none⟩) hb.2.1))
 have HFOR : Hid (ForR w3 (Fw w3 (w1.heap.size + 1)) m la L) := hfor.to (fun b hb => by simpa using hb) (fun _ _ _ => rfl)
 have hbc := HBX.out.cell
 have hbf := HBX.out.frozen
 have hrc := HRS.out.cell
 have hrf := HRS.out.frozen
 have hbl : w1.heap.size < w3.heap.size := by omega
 have hrl : w.heap.size + 1 < w3.heap.size := by omega
 have hne : ¬ w1.heap.size = w.heap.size + 1 := by omega
 have hne' : ¬ w.heap.size + 1 = w1.heap.size := by omega
 clear hb3 hfor hcal hk7 HX1' HX2' HAT1
 go_wp2
 refine bodyPost_ret (v := .agg #[.int .i64 s.kind, .string s.name, .slice a1 s.attrs.length c1, .string s.text, .slice la L.length lcap]) (by simp [results, Tryz.results80, go_sem, hrc]) rfl ⟨_, rfl, ?_⟩
 exact pl_end (w' := _) (X := w1.heap.size) (by omega) (by omega) hs0 hal hkl hc1 hlc HAT3.out HFOR.out HB3.out ((((((((Turn.refl (fun b => b = w.heap.size + 1 \/ b = w1.heap.size) w3).setCell (A := fun b => b = w.heap.size + 1 \/ b = w1.heap.size) (p := ⟨w1.heap.size, 4, none⟩) (.inr rfl) _).setCell (A := fun b => b = w.heap.size + 1 \/ b = w1.heap.size) (p := ⟨w.heap.size + 1, 0, none⟩) (.inl rfl) _).setCell (A := fun b => b = w.heap.size + 1 \/ b = w1.heap.size) (p := ⟨w.heap.size + 1, 1, none⟩) (.inl rfl) _).setCell (A := fun b => b = w.heap.size + 1 \/ b = w1.heap.size) (p := ⟨w.heap.size + 1, 2, none⟩) (.inl rfl) _).setCell (A := fun b => b = w.heap.size + 1 \/ b = w1.heap.size) (p := ⟨w.heap.size + 1, 3, none⟩) (.inl rfl) _).setCell (A := fun b => b = w.heap.size + 1 \/ b = w1.heap.size) (p := ⟨w.heap.size + 1, 4, none⟩) (.inl rfl) _))
theorem plain_any (D : Dc) (R : Nat -> Prop) (db : Nat) (lv : Nat -> Nat) (hw : WF D) (hl : Lev D lv) : ∀ (m : Nat) (w : World) (h : Nat) (s : Sl) (aa : Option Addr) (ac : Nat) (ka : Option Addr) (kc : Nat), View w R db D -> sl D h = some s -> AttrsR w R aa s.attrs -> HandsAt w R ka s.kids -> 63 - lv h <= m ->
  Calls Tryz.prog 80 #[.pointer (some ⟨db, 0, none⟩), .agg (slv s aa ac ka kc)] w (PlP w (m + 1) (subT D m h))
 | 0, w, h, s, aa, ac, ka, kc, hv, hs, hat, hkt, hm => by
  have hnil : lst D h = [] := by
   cases he : lst D h with
   | nil => rfl
   | cons c r =>
    obtain ⟨s', h1, _, h2⟩ := hw.kid hl hs (c := c) (by rw [he]; simp)
    have := (hl c s' h1).1
    omega
  have hkn : s.kids = [] := by rw [<- lst_of hs, hnil]
  unfold subT
  rw [slD_of hs]
  refine plain_walk w R db s 0 (kidT D 0 h) aa ac ka kc hat hv.lt (hw.alen hs) (by simp [kidT]) (fun W hb => ?_)
  have := plains_walk W R db D 0 [] [] ka kc (hv.below hb) hw (fun i x hx => by simp at hx) (by simp) rfl (fun i x hx => by simp at hx)
  rw [hkn]
  exact this
 | m + 1, w, h, s, aa, ac, ka, kc, hv, hs, hat, hkt, hm => by
  have hll := lst_len hw (.inr ⟨s, hs⟩ : h = 0 \/ ∃ s, sl D h = some s)
  have hkk : lst D h = s.kids := lst_of hs
  unfold subT
  rw [slD_of hs]
  refine plain_walk w R db s (m + 1) (kidT D (m + 1) h) aa ac ka kc hat hv.lt (hw.alen hs) (by rw [kidT_succ, List.length_map]; exact hll) (fun W hb => ?_)
  rw [kidT_succ, hkk]
  refine plains_walk W R db D (m + 1) s.kids (s.kids.map (subT D m)) ka kc (hv.below hb) hw (hkt.to (fun _ h => h) (fun b o hb' => hb.cell (p := ⟨b, o, none⟩) (hv.lt b hb'))) (by rw [<- hkk]; exact hll) (List.length_map ..) (fun i x hx => ?_)
  obtain ⟨s', h1, _, h2⟩ := hw.kid hl hs (c := x) (by rw [hkk]; exact List.mem_of_getElem? hx)
  exact ⟨subT D m x, s', by rw [List.getElem?_map, hx]; rfl, h1, fun W' aa' ac' ka' kc' hW' ha' hk' => plain_any D R db lv hw hl m W' x s' aa' ac' ka' kc' hW' h1 ha' hk' (by omega)⟩
theorem pforest_any (w : World) (R : Nat -> Prop) (db : Nat) (D : Dc) (hv : View w R db D) (hw : WF D) :
  Calls Tryz.prog 59 #[.pointer (some ⟨db, 0, none⟩)] w (FoP w 64 (D.roots.map (subT D 63))) := by
 obtain ⟨lv, hl⟩ := hw.lev
 have hll := (roots_len hw).1
 obtain ⟨ra, rcap, hz1, hrc, hra⟩ := hv.roots
 have hcal := plains_walk w R db D 64 D.roots (D.roots.map (subT D 63)) ra rcap hv hw hra hll (List.length_map ..) (fun i x hx => by
  obtain ⟨s, h1, _, h2⟩ := hw.root hl (List.mem_of_getElem? hx)
  exact ⟨subT D 63 x, s, by rw [List.getElem?_map, hx]; rfl, h1, fun W aa ac ka kc hW ha hk => plain_any D R db lv hw hl 63 W x s aa ac ka kc hW h1 ha hk (by omega)⟩)
 generalize D.roots.map (subT D 63) = L at hcal ⊢
 clear hv hw hl hra
 go_enter Tryz.func59, Tryz.ntmps59
 go_wp2_with fail
 refine hcal.mono ?_
 rintro e w1 ⟨a, c, rfl, h1, h2, h3⟩
 go_wp2
 go_ret
 exact ⟨a, c, rfl, h1, h2, h3⟩
def CsP (W : World) (R : Nat -> Prop) (s : Sl) (e : Ending) (w' : World) : Prop :=
 ∃ aa ac ka kc, e = .returned (.agg (slv s aa ac ka kc)) /\ s.attrs.length <= ac /\ s.kids.length <= kc /\ AttrsR w' R aa s.attrs /\ HandsAt w' R ka s.kids /\ Below W.heap.size W w'
theorem cs1_any (w : World) (R : Nat -> Prop) (db B i : Nat) (D : Dc) (s : Sl) (hB : w.cell? ⟨B, 0, none⟩ = some (.pointer (some ⟨db, 0, none⟩))) (hv : View w R db D) (hs : D.S[i]? = some s) :
  Calls Tryz.prog 92 #[.int .i64 (i : Int), .pointer (some ⟨B, 0, none⟩)] w (CsP w R s) := by
 obtain ⟨sb, so, scap, aa, ac, ka, kc, hh1, hsc, hsbR, c0, c1, c2, c3, c4, c5, c6, c7, l1, l2, hat, hkt⟩ := hv.slot hs
 have hil := (List.getElem?_eq_some_iff.1 hs).1
 have hbl := hv.lt sb hsbR
 have hdl := hv.lt db hv.docs
 have hBl := World.block_lt_of_cell? w _ hB
 simp only at hBl
 have HAT : Hid (AttrsR w R aa s.attrs) := hat
 have HKT : Hid (HandsAt w R ka s.kids) := hkt
 have HR : Hid (∀ b, R b -> b < w.heap.size) := hv.lt
 have hi1 : (i : Int) < ((D.S.length : Nat) : Int) := by omega
 have hi0 : (0 : Int) <= (i : Int) := by omega
 clear hat hkt hv hs
 go_enter Tryz.func92, Tryz.ntmps92
 go_wp2
 refine bodyPost_ret (v := .agg (slv s aa ac ka kc)) (by simp [results, Tryz.results92, go_sem, slv]) rfl ⟨aa, ac, ka, kc, rfl, l1, l2, ?_⟩
 have hb : Below w.heap.size w (w.alloc (.cells #[.int .u32 (s.gen : Int), .bool s.live, .int .i64 s.kind, .string s.name, .slice aa s.attrs.length ac, .string s.text, .int .u64 (s.parent : Int), .slice ka s.kids.length kc] 75)) := below_new' w _
 exact ⟨HAT.out.to (fun _ h => h) (fun b o hb' => hb.cell (p := ⟨b, o, none⟩) (HR.out b hb')), HKT.out.to (fun _ h => h) (fun b o hb' => hb.cell (p := ⟨b, o, none⟩) (HR.out b hb')), hb⟩
structure CyS (w wr : World) (S : List Sl) (i : Nat) (L : List (Value × Value)) (xs : List Value) : Prop where
 own : wr.ownsRow w.heap.size 75 8 (.slice (some ⟨w.heap.size, 0, none⟩) S.length S.length) S.length xs
 len : L.length = i
 first : xs.take (i * 8) = rowOf (S.take i) L
 vals : ∀ (k : Nat) (s : Sl) (p : Value × Value), (S.take i)[k]? = some s -> L[k]? = some p -> wr.ownsRow w.heap.size 128 2 p.1 s.attrs.length (attrCells s.attrs) /\ wr.ownsRow w.heap.size 42 1 p.2 s.kids.length (hvals s.kids)
 ros : ∃ ro : Nat -> Nat, (∀ (k : Nat) (p : Value × Value) (b : Nat), L[k]? = some p -> p.1.ownBlock = some b -> ro b = 2 * k + 4) /\ (∀ (k : Nat) (p : Value × Value) (b : Nat), L[k]? = some p -> p.2.ownBlock = some b -> ro b = 2 * k + 5) /\ ∀ b, ro b ≠ 0 -> w.heap.size < b /\ b < wr.heap.size
 bel : Below w.heap.size w wr
def OwV (w : World) (H : Nat) (s : Sl) (p : Value × Value) : Prop :=
 w.ownsRow H 128 2 p.1 s.attrs.length (attrCells s.attrs) /\ w.ownsRow H 42 1 p.2 s.kids.length (hvals s.kids) /\ ∀ b, p.1.ownBlock = some b -> p.2.ownBlock ≠ some b
def set8 (w : World) (g j : Nat) (l : List Value) : World :=
 match l with
 | [] => w
 | x :: r => set8 (w.setCell ⟨g, j, none⟩ x) g (j + 1) r
def lset (xs : List Value) (j : Nat) (l : List Value) : List Value :=
 match l with
 | [] => xs
 | x :: r => lset (xs.set j x) (j + 1) r
theorem own_set8 {base e size g n cap : Nat} : ∀ (l : List Value) (w : World) (j : Nat) (xs : List Value), w.ownsRow base e size (.slice (some ⟨g, 0, none⟩) n cap) n xs -> (set8 w g j l).ownsRow base e size (.slice (some ⟨g, 0, none⟩) n cap) n (lset xs j l)
 | [], w, j, xs, h => h
 | x :: r, w, j, xs, h => own_set8 r _ _ _ (own_set h j x)
theorem turn_set8 {g : Nat} : ∀ (l : List Value) (w : World) (j : Nat), Turn (fun b => b = g) w (set8 w g j l)
 | [], w, j => Turn.refl _ _
 | x :: r, w, j => ((Turn.refl (fun b => b = g) w).setCell (A := fun b => b = g) (p := ⟨g, j, none⟩) rfl x).trans (turn_set8 r _ _)
theorem lset_length : ∀ (l xs : List Value) (j : Nat), (lset xs j l).length = xs.length
 | [], xs, j => rfl
 | x :: r, xs, j => by rw [lset, lset_length r, List.length_set]
theorem lset_below : ∀ (l xs : List Value) (j k : Nat), k < j -> (lset xs j l)[k]? = xs[k]?
 | [], xs, j, k, h => rfl
 | x :: r, xs, j, k, h => by rw [lset, lset_below r _ _ _ (by omega), List.getElem?_set_ne (by omega)]
theorem lset_at : ∀ (l xs : List Value) (j k : Nat), k < l.length -> j + l.length <= xs.length -> (lset xs j l)[j + k]? = l[k]?
 | [], xs, j, k, h, h2 => by simp at h
 | x :: r, xs, j, 0, h, h2 => by
  rw [lset, lset_below r _ _ _ (by omega)]
  simp at h2
  rw [Nat.add_zero, List.getElem?_set_self (by omega)]
  rfl
 | x :: r, xs, j, k + 1, h, h2 => by
  simp at h h2
  rw [lset, show j + (k + 1) = j + 1 + k from by omega, lset_at r _ _ _ h (by rw [List.length_set]; omega)]
  rfl
theorem lset_take {l xs : List Value} {j : Nat} (h : j + l.length <= xs.length) : (lset xs j l).take (j + l.length) = xs.take j ++ l := by
 apply List.ext_getElem?
 intro k
 rcases Nat.lt_or_ge k (j + l.length) with hk | hk
 ·rw [List.getElem?_take_of_lt hk]
  rcases Nat.lt_or_ge k j with hj | hj
  ·rw [lset_below _ _ _ _ hj, List.getElem?_append_left (by rw [List.length_take]; omega), List.getElem?_take_of_lt hj]
  ·rw [List.getElem?_append_right (by rw [List.length_take]; omega), List.length_take, Nat.min_eq_left (by omega)]
   have := lset_at l xs j (k - j) (by omega) h
   rw [show j + (k - j) = k from by omega] at this
   exact this
 ·rw [List.getElem?_eq_none (by rw [List.length_take, lset_length]; omega), List.getElem?_eq_none (by rw [List.length_append, List.length_take]; omega)]
theorem CyS.step {w wr w5 : World} {S : List Sl} {i : Nat} {L : List (Value × Value)} {xs : List Value} (h : CyS w wr S i L xs) {s : Sl} (hs : S[i]? = some s) {p : Value × Value} (hb : Below wr.heap.size wr w5) (hv : OwV w5 wr.heap.size s p) :
  CyS w (set8 w5 w.heap.size (i * 8) (slotCells s p)) S (i + 1) (L ++ [p]) (lset xs (i * 8) (slotCells s p)) := by
 have hi := (List.getElem?_eq_some_iff.1 hs).1
 have o5 := own_of_block (w' := w5) h.own (fun k hk => hb.block k (own_block_lt h.own k hk).2)
 have ht := turn_set8 (g := w.heap.size) (slotCells s p) w5 (i * 8)
 have hbl := h.bel.size
 have hgl := (own_block_lt h.own w.heap.size rfl).2
 have hxl : xs.length = S.length * 8 := h.own.1
 have hsl : (slotCells s p).length = 8 := rfl
 have hss := hb.size
 have hts := ht.size
 have htl : (S.take i).length = i := by rw [List.length_take]; omega
 obtain ⟨ro, r1, r2, r3⟩ := h.ros
 obtain ⟨v1, v2, v3⟩ := hv
 have b1 := own_block_lt v1
 have b2 := own_block_lt v2
 refine ⟨own_set8 _ _ _ _ o5, by rw [List.length_append, h.len]; rfl, ?_, ?_, ?_, ?_⟩
 ·rw [take_more hs, rowOf_snoc (by rw [h.len, htl]), <- h.first, show (i + 1) * 8 = i * 8 + (slotCells s p).length from by rw [hsl]; omega]
  exact lset_take (by rw [hsl]; omega)
 ·intro k s' p' hk1 hk2
  rw [take_more hs] at hk1
  rcases Nat.lt_or_ge k i with hki | hki
  ·rw [List.getElem?_append_left (by omega)] at hk1
   rw [List.getElem?_append_left (by rw [h.len]; omega)] at hk2
   obtain ⟨o1, o2⟩ := h.vals k s' p' hk1 hk2
   have hold : ∀ b, ro b ≠ 0 -> (set8 w5 w.heap.size (i * 8) (slotCells s p)).heap[b]? = wr.heap[b]? := fun b hb' => by
    have := r3 b hb'
    exact (ht.block b (by omega) (by omega)).trans (hb.block b (by omega))
   exact ⟨own_of_block o1 (fun b hb' => hold b (by rw [r1 k p' b hk2 hb']; omega)), own_of_block o2 (fun b hb' => hold b (by rw [r2 k p' b hk2 hb']; omega))⟩
  ·have hke : k = i := by
    have := (List.getElem?_eq_some_iff.1 hk1).1
    rw [List.length_append, htl] at this
    simp at this
    omega
   subst hke
   rw [List.getElem?_append_right (by omega), htl] at hk1
   rw [List.getElem?_append_right (by rw [h.len]; omega), h.len] at hk2
   simp at hk1 hk2
   subst hk1 hk2
   exact ⟨own_of_block (own_base v1 (fun b hb' => by have := b1 b hb'; omega)) (fun b hb' => ht.block b (b1 b hb').2 (by have := b1 b hb'; omega)), own_of_block (own_base v2 (fun b hb' => by have := b2 b hb'; omega)) (fun b hb' => ht.block b (b2 b hb').2 (by have := b2 b hb'; omega))⟩
 ·refine ⟨fun b => if p.1.ownBlock = some b then 2 * i + 4 else if p.2.ownBlock = some b then 2 * i + 5 else ro b, fun k q b hk hq => ?_, fun k q b hk hq => ?_, fun b hb' => ?_⟩
  ·rcases Nat.lt_or_ge k i with hki | hki
   ·rw [List.getElem?_append_left (by rw [h.len]; omega)] at hk
    have e := r1 k q b hk hq
    have hlt := r3 b (by rw [e]; omega)
    simp only
    rw [if_neg (fun c => by have := b1 b c; omega), if_neg (fun c => by have := b2 b c; omega)]
    exact e
   ·have hke : k = i := by
     have := (List.getElem?_eq_some_iff.1 hk).1
     rw [List.length_append, h.len] at this
     simp at this
     omega
    subst hke
    rw [List.getElem?_append_right (by rw [h.len]; omega), h.len] at hk
    simp at hk
    subst hk
    simp only
    rw [if_pos hq]
  ·rcases Nat.lt_or_ge k i with hki | hki
   ·rw [List.getElem?_append_left (by rw [h.len]; omega)] at hk
    have e := r2 k q b hk hq
    have hlt := r3 b (by rw [e]; omega)
    simp only
    rw [if_neg (fun c => by have := b1 b c; omega), if_neg (fun c => by have := b2 b c; omega)]
    exact e
   ·have hke : k = i := by
     have := (List.getElem?_eq_some_iff.1 hk).1
     rw [List.length_append, h.len] at this
     simp at this
     omega
    subst hke
    rw [List.getElem?_append_right (by rw [h.len]; omega), h.len] at hk
    simp at hk
    subst hk
    simp only
    rw [if_neg (fun c => v3 b c hq), if_pos hq]
  ·simp only at hb'
   by_cases c1 : p.1.ownBlock = some b
   ·have := b1 b c1
    omega
   ·rw [if_neg c1] at hb'
    by_cases c2 : p.2.ownBlock = some b
    ·have := b2 b c2
     omega
    ·rw [if_neg c2] at hb'
     have := r3 b hb'
     omega
 ·exact (h.bel.trans (hb.mono hbl)).trans (ht.below (by omega) (fun k hk => by omega))
theorem cy_pair {wr w1 W0 w2 w3 : World} {s : Sl} {aa ka va vb : Option Addr} {ac kc vc vd : Nat} (hbx : Below wr.heap.size wr W0) (hx : IsCells w3 w1.heap.size #[.int .u32 (s.gen : Int), .bool s.live, .int .i64 s.kind, .string s.name, .slice aa s.attrs.length ac, .string s.text, .int .u64 (s.parent : Int), .slice ka s.kids.length kc])
  (hb2 : Below W0.heap.size W0 w2) (hb3 : Below w2.heap.size w2 w3) (ho2 : w2.ownsRow W0.heap.size 128 2 (.slice va s.attrs.length vc) s.attrs.length (attrCells s.attrs)) (ho3 : w3.ownsRow w2.heap.size 42 1 (.slice vb s.kids.length vd) s.kids.length (hvals s.kids)) (hs0 : W0.heap.size = w1.heap.size + 1) (hs1 : wr.heap.size <= w1.heap.size) :
  IsCells ((w3.setCell ⟨w1.heap.size, 4, none⟩ (.slice va s.attrs.length vc)).setCell ⟨w1.heap.size, 7, none⟩ (.slice vb s.kids.length vd)) w1.heap.size (slotCells s (.slice va s.attrs.length vc, .slice vb s.kids.length vd)).toArray /\
  Below wr.heap.size wr ((w3.setCell ⟨w1.heap.size, 4, none⟩ (.slice va s.attrs.length vc)).setCell ⟨w1.heap.size, 7, none⟩ (.slice vb s.kids.length vd)) /\
  OwV ((w3.setCell ⟨w1.heap.size, 4, none⟩ (.slice va s.attrs.length vc)).setCell ⟨w1.heap.size, 7, none⟩ (.slice vb s.kids.length vd)) wr.heap.size s (.slice va s.attrs.length vc, .slice vb s.kids.length vd) := by
 have z2 := hb2.size
 have z3 := hb3.size
 have ht : Turn (fun b => b = w1.heap.size) w3 ((w3.setCell ⟨w1.heap.size, 4, none⟩ (.slice va s.attrs.length vc)).setCell ⟨w1.heap.size, 7, none⟩ (.slice vb s.kids.length vd)) := ((Turn.refl (fun b => b = w1.heap.size) w3).setCell (A := fun b => b = w1.heap.size) (p := ⟨w1.heap.size, 4, none⟩) rfl _).setCell (A := fun b => b = w1.heap.size) (p := ⟨w1.heap.size, 7, none⟩) rfl _
 have hall : Below wr.heap.size wr w3 := (hbx.trans (hb2.mono (by omega))).trans (hb3.mono (by omega))
 have b2 := own_block_lt ho2
 have b3 := own_block_lt ho3
 refine ⟨(hx.set 4 _).set 7 _, hall.trans (ht.below (by omega) (fun k hk => by omega)), ?_, ?_, fun b e1 e2 => ?_⟩
 ·exact own_of_block (own_base ho2 (fun b hb => by have := b2 b hb; omega)) (fun b hb => (ht.block b (by have := b2 b hb; omega) (by have := b2 b hb; omega)).trans (hb3.block b (b2 b hb).2))
 ·exact own_of_block (own_base ho3 (fun b hb => by have := b3 b hb; omega)) (fun b hb => ht.block b (b3 b hb).2 (by have := b3 b hb; omega))
 ·have := b2 b e1
  have := b3 b e2
  omega
def CyP (w : World) (S : List Sl) (e : Ending) (w' : World) : Prop :=
 ∃ L xs, e = .returned (.slice (some ⟨w.heap.size, 0, none⟩) S.length S.length) /\ CyS w w' S S.length L xs
theorem CyS.row {w wr : World} {S : List Sl} {L : List (Value × Value)} {xs : List Value} (h : CyS w wr S S.length L xs) : wr.ownsRow w.heap.size 75 8 (.slice (some ⟨w.heap.size, 0, none⟩) S.length S.length) S.length (rowOf S L) := by
 have hx : xs = rowOf S L := by
  have := h.first
  rw [List.take_length, List.take_of_length_le (by rw [h.own.1]; omega)] at this
  exact this
 have ho := h.own
 rw [hx] at ho
 exact ho
theorem OwV_vals {w : World} {H : Nat} {s : Sl} {p : Value × Value} (h1 : w.ownsRow H 128 2 p.1 s.attrs.length (attrCells s.attrs)) (h2 : w.ownsRow H 42 1 p.2 s.kids.length (hvals s.kids)) : SlotVals w (Fw w H) s p := by
 obtain ⟨pa, pk⟩ := p
 obtain ⟨aa, ac, e1⟩ := own_slice h1
 obtain ⟨ka, kc, e2⟩ := own_slice h2
 simp only at e1 e2
 subst e1 e2
 exact ⟨aa, ac, ka, kc, rfl, (attrs_own h1 rfl).2.2, (row_cell h2).1, (attrs_own h1 rfl).1.to (fun b hb => hb.2) (fun _ _ _ => rfl), (hands_own h2).to (fun b hb => hb.2) (fun _ _ _ => rfl)⟩
theorem CyS.done {w wr : World} {S : List Sl} {L : List (Value × Value)} {xs : List Value} (h : CyS w wr S S.length L xs) : SlotsAt wr (Fw wr w.heap.size) (some ⟨w.heap.size, 0, none⟩) S := by
 have ho := h.row
 exact (slots_row h.len ho (fun i s p hs hp => by
  obtain ⟨v1, v2⟩ := h.vals i s p (by rw [List.take_length]; exact hs) hp
  exact OwV_vals v1 v2) (fun g e h1 h2 => ⟨h1, h2, own_wr ho (by rw [e]; rfl)⟩)).1
theorem cy_any (w : World) (R : Nat -> Prop) (B : Nat) (S : List Sl) (hR : ∀ b, R b -> b < w.heap.size) (hn : S.length <= 4096) (hcap : ∀ (i : Nat) (s : Sl), S[i]? = some s -> s.attrs.length <= 1000000 /\ s.kids.length <= 1000000)
  (hcl : ∀ (i : Nat) (s : Sl), S[i]? = some s -> ∀ W, Below w.heap.size w W -> Calls Tryz.prog 92 #[.int .i64 (i : Int), .pointer (some ⟨B, 0, none⟩)] W (CsP W R s)) :
  Calls Tryz.prog 32 #[.int .i64 (S.length : Int), .func (.func 92) #[] #[.pointer (some ⟨B, 0, none⟩)]] w (CyP w S) := by
 obtain ⟨W1, hmk, hO1, hB1⟩ : ∃ W1, (Instr.makeSlice 22 (.int .i64 (S.length : Int)) (.int .i64 (S.length : Int))).run Tryz.prog w = .ok (.slice (some ⟨w.heap.size, 0, none⟩) S.length S.length) W1 /\ Hid (∃ xs, W1.ownsRow w.heap.size 75 8 (.slice (some ⟨w.heap.size, 0, none⟩) S.length S.length) S.length xs) /\ Hid (Below w.heap.size w W1) := by
  obtain ⟨i, hi0, hz0, hz1, hz2⟩ := info75.parts
  obtain ⟨w', hr, h2, h3⟩ := run_make_full (P := Tryz.prog) w w.heap.size 22 75 i _ 8 Tryz.underlying22 hi0 hz0 hz1 .i64 .i64 S.length (by rw [hz2]; omega) (by unfold maxLen; omega) (Nat.le_refl _)
  exact ⟨w', hr, ⟨_, h2⟩, ⟨h3.os, h3.tape, h3.output, h3.size, fun k hk => h3.block k hk (by simp)⟩⟩
 obtain ⟨xs0, hxs0⟩ := hO1.out
 have HST : Hid (CyS w W1 S 0 [] xs0) := ⟨hxs0, rfl, by simp [rowOf], (fun k s p hk _ => by simp at hk), ⟨fun _ => 0, (fun k p b hk _ => by simp at hk), (fun k p b hk _ => by simp at hk), fun b hb => absurd rfl hb⟩, hB1.out⟩
 have HCL : Hid (∀ (i : Nat) (s : Sl), S[i]? = some s -> ∀ W, Below w.heap.size w W -> Calls Tryz.prog 92 #[.int .i64 (i : Int), .pointer (some ⟨B, 0, none⟩)] W (CsP W R s)) := hcl
 have HR : Hid (∀ b, R b -> b < w.heap.size) := hR
 have HCAP : Hid (∀ (i : Nat) (s : Sl), S[i]? = some s -> s.attrs.length <= 1000000 /\ s.kids.length <= 1000000) := hcap
 clear hxs0 hcl hR hO1 hB1 hcap
 go_enter Tryz.func32, Tryz.ntmps32
 go_wp2
 clear hmk
 go_loopw [12] (fun iv wr => ∃ (i : Nat) (L : List (Value × Value)) (xs : List Value), i <= S.length /\ iv = .int .i64 (i : Int) /\ Hid (CyS w wr S i L xs)) (fun iv _ => S.length - (intOf iv).toNat)
 case atStart => exact ⟨0, [], xs0, Nat.zero_le _, rfl, HST⟩
 case round =>
  obtain ⟨i, L, xs, hi, rfl, hst⟩ := hrel
  clear HST
  have hbs := hst.out.bel.size
  by_cases hlt : i < S.length
  ·obtain ⟨s, hs⟩ : ∃ s, S[i]? = some s := ⟨_, List.getElem?_eq_getElem hlt⟩
   have hcall := HCL.out i s hs wr hst.out.bel
   obtain ⟨hal, hkl⟩ := HCAP.out i s hs
   have HS : Hid (S[i]? = some s) := hs
   clear hs
   go_wp2_with fail
   refine hcall.mono ?_
   rintro e w1 ⟨aa, ac, ka, kc, rfl, l1, l2, hat, hkt, hb1⟩
   have hs1 := hb1.size
   have HB1 : Hid (Below wr.heap.size wr w1) := hb1
   have HAT : Hid (AttrsR w1 R aa s.attrs) := hat
   have HKT : Hid (HandsAt w1 R ka s.kids) := hkt
   have HX : Hid (IsCells (w1.alloc (.cells #[.int .u32 (s.gen : Int), .bool s.live, .int .i64 s.kind, .string s.name, .slice aa s.attrs.length ac, .string s.text, .int .u64 (s.parent : Int), .slice ka s.kids.length kc] 75)) w1.heap.size #[.int .u32 (s.gen : Int), .bool s.live, .int .i64 s.kind, .string s.name, .slice aa s.attrs.length ac, .string s.text, .int .u64 (s.parent : Int), .slice ka s.kids.length kc]) := isCells_new w1 _ _
   have HBX : Hid (Below wr.heap.size wr (w1.alloc (.cells #[.int .u32 (s.gen : Int), .bool s.live, .int .i64 s.kind, .string s.name, .slice aa s.attrs.length ac, .string s.text, .int .u64 (s.parent : Int), .slice ka s.kids.length kc] 75))) := hb1.alloc hs1 _
   have HFA : Hid (∀ W, Below w1.heap.size w1 W -> Calls Tryz.prog 90 #[.slice aa s.attrs.length ac] W (FrP W 128 2 s.attrs.length (attrCells s.attrs))) := fun W hb => freshA_any W R aa s.attrs ac (HAT.out.to (fun _ h => h) (fun b o hb' => hb.cell (p := ⟨b, o, none⟩) (by have := HR.out b hb'; show b < w1.heap.size; omega))) hal
   have HFH : Hid (∀ W, Below w1.heap.size w1 W -> Calls Tryz.prog 35 #[.slice ka s.kids.length kc] W (FrP W 42 1 s.kids.length (hvals s.kids))) := fun W hb => freshH_any W R ka s.kids kc (HKT.out.to (fun _ h => h) (fun b o hb' => hb.cell (p := ⟨b, o, none⟩) (by have := HR.out b hb'; show b < w1.heap.size; omega))) hkl
   have HB0 : Hid (Below w1.heap.size w1 (w1.alloc (.cells #[.int .u32 (s.gen : Int), .bool s.live, .int .i64 s.kind, .string s.name, .slice aa s.attrs.length ac, .string s.text, .int .u64 (s.parent : Int), .slice ka s.kids.length kc] 75))) := below_new' w1 _
   unfold slv
   clear hb1 hat hkt hcall
   go_upto_region 6 with fail
   go_cut [] (fun wx => ∃ p : Value × Value, Hid (IsCells wx w1.heap.size (slotCells s p).toArray) /\ Hid (Below wr.heap.size wr wx) /\ Hid (OwV wx wr.heap.size s p))
   case first =>
    generalize hW0 : w1.alloc (.cells #[.int .u32 (s.gen : Int), .bool s.live, .int .i64 s.kind, .string s.name, .slice aa s.attrs.length ac, .string s.text, .int .u64 (s.parent : Int), .slice ka s.kids.length kc] 75) = W0 at *
    have hs0 : W0.heap.size = w1.heap.size + 1 := by rw [<- hW0]; simp
    clear hW0
    have hc4 : W0.cell? ⟨w1.heap.size, 4, none⟩ = some (.slice aa s.attrs.length ac) := HX.out.cell 4
    have hc7 : W0.cell? ⟨w1.heap.size, 7, none⟩ = some (.slice ka s.kids.length kc) := HX.out.cell 7
    have hf4 : W0.frozen? ⟨w1.heap.size, 4, none⟩ = false := HX.out.frozen 4
    have hf7 : W0.frozen? ⟨w1.heap.size, 7, none⟩ = false := HX.out.frozen 7
    have hfa := HFA.out W0.drew HB0.out.drew
    go_region_with
     (first
      | (go_at_call 90; refine hfa.mono ?_; rintro e w2 ⟨va, vc, rfl, hown2, hb2⟩; have hb2' : Below W0.heap.size W0 w2 := (Below.refl _ _).drew.trans hb2; have hs2 := hb2'.size; have HX2 : Hid (IsCells w2 w1.heap.size #[.int .u32 (s.gen : Int), .bool s.live, .int .i64 s.kind, .string s.name, .slice aa s.attrs.length ac, .string s.text, .int .u64 (s.parent : Int), .slice ka s.kids.length kc]) := HX.out.of_block (hb2'.block _ (by omega)); have d4 : w2.cell? ⟨w1.heap.size, 4, none⟩ = some (.slice aa s.attrs.length ac) := HX2.out.cell 4; have d7 : w2.cell? ⟨w1.heap.size, 7, none⟩ = some (.slice ka s.kids.length kc) := HX2.out.cell 7; have hfh := HFH.out w2 (HB0.out.trans (hb2'.mono (by omega))); have HO2 : Hid (w2.ownsRow W0.heap.size 128 2 (.slice va s.attrs.length vc) s.attrs.length (attrCells s.attrs)) := hown2; have HB2 : Hid (Below W0.heap.size W0 w2) := hb2'; clear hown2 hb2 hb2')
      | (go_at_call 35; refine hfh.mono ?_; rintro e w3 ⟨vb, vd, rfl, hown3, hb3⟩; have hs3 := hb3.size; have HX3 : Hid (IsCells w3 w1.heap.size #[.int .u32 (s.gen : Int), .bool s.live, .int .i64 s.kind, .string s.name, .slice aa s.attrs.length ac, .string s.text, .int .u64 (s.parent : Int), .slice ka s.kids.length kc]) := HX2.out.of_block (hb3.block _ (by omega)); have e4 : w3.cell? ⟨w1.heap.size, 4, none⟩ = some (.slice aa s.attrs.length ac) := HX3.out.cell 4; have e7 : w3.cell? ⟨w1.heap.size, 7, none⟩ = some (.slice ka s.kids.length kc) := HX3.out.cell 7; have q4 : w3.frozen? ⟨w1.heap.size, 4, none⟩ = false := HX3.out.frozen 4; have q7 : w3.frozen? ⟨w1.heap.size, 7, none⟩ = false := HX3.out.frozen 7; have HO3 : Hid (w3.ownsRow w2.heap.size 42 1 (.slice vb s.kids.length vd) s.kids.length (hvals s.kids)) := hown3; have HB3 : Hid (Below w2.heap.size w2 w3) := hb3; clear hown3 hb3))
    all_goals
     go_wp2_with fail
     go_meet
     exact ⟨(.slice va s.attrs.length vc, .slice vb s.kids.length vd), cy_pair HBX.out HX3.out HB2.out HB3.out HO2.out HO3.out hs0 hs1⟩
   case rest =>
    obtain ⟨p, HXc, HBc, HVc⟩ := hcut
    obtain ⟨av, an, ak, kv, kn, kk, rfl⟩ : ∃ av an ak kv kn kk, p = (.slice av an ak, .slice kv kn kk) := by
     obtain ⟨pa, pk⟩ := p
     obtain ⟨aa, ac, e1⟩ := own_slice HVc.out.1
     obtain ⟨ka, kc, e2⟩ := own_slice HVc.out.2.1
     simp only at e1 e2
     exact ⟨_, _, _, _, _, _, by rw [e1, e2]⟩
    have HST2 : Hid (CyS w (set8 wc w.heap.size (i * 8) (slotCells s (.slice av an ak, .slice kv kn kk))) S (i + 1) (L ++ [(.slice av an ak, .slice kv kn kk)]) (lset xs (i * 8) (slotCells s (.slice av an ak, .slice kv kn kk)))) := hst.out.step HS.out HBc.out HVc.out
    have hcs : ∀ o, wc.cell? ⟨w1.heap.size, o, none⟩ = (slotCells s (.slice av an ak, .slice kv kn kk)).toArray[o]? := HXc.out.cell
    have x0 := hcs 0
    have x1 := hcs 1
    have x2 := hcs 2
    have x3 := hcs 3
    have x4 := hcs 4
    have x5 := hcs 5
    have x6 := hcs 6
    have x7 := hcs 7
    simp [slotCells] at x0 x1 x2 x3 x4 x5 x6 x7
    have hown := own_of_block (w' := wc) hst.out.own (fun k hk => HBc.out.block k (own_block_lt hst.out.own k hk).2)
    have hgl := (own_block_lt hown w.heap.size rfl).2
    have hfz := (own_wr hown (g := w.heap.size) rfl).frozen
    have hgc : ∀ j, j < 8 -> ∃ u, wc.cell? ⟨w.heap.size, i * 8 + j, none⟩ = some u := fun j hj => by
     obtain ⟨u, hu⟩ : ∃ u, xs[i * 8 + j]? = some u := ⟨_, List.getElem?_eq_getElem (by rw [hown.1]; omega)⟩
     obtain ⟨g', e', _, _, hc⟩ := (row_cell hown).2.2 _ u hu
     cases e'
     exact ⟨u, hc⟩
    obtain ⟨u0, g0⟩ := hgc 0 (by omega)
    obtain ⟨u1, g1⟩ := hgc 1 (by omega)
    obtain ⟨u2, g2⟩ := hgc 2 (by omega)
    obtain ⟨u3, g3⟩ := hgc 3 (by omega)
    obtain ⟨u4, g4⟩ := hgc 4 (by omega)
    obtain ⟨u5, g5⟩ := hgc 5 (by omega)
    obtain ⟨u6, g6⟩ := hgc 6 (by omega)
    obtain ⟨u7, g7⟩ := hgc 7 (by omega)
    simp only [Nat.add_zero] at g0
    have hi1 : (i : Int) < ((S.length : Nat) : Int) := by omega
    have hi0 : (0 : Int) <= (i : Int) := by omega
    clear hcs hown hgc HXc HBc HVc HX HBX HFA HFH HB0 HAT HKT HB1 HS
    go_wp2
    go_roundw
    case rel => exact ⟨i + 1, _, _, by omega, by go_num, HST2⟩
    case measure => simp [intOf]; omega
  ·have hie : i = S.length := by omega
   subst hie
   clear HCL hlt
   go_wp2
   go_ret
   exact ⟨L, xs, rfl, hst.out⟩
theorem WF.caps {D : Dc} (hw : WF D) {i : Nat} {s : Sl} (hs : D.S[i]? = some s) : s.attrs.length <= 32 /\ s.kids.length <= 4096 := by
 cases hl : s.live with
 | false =>
  rw [hw.dead i s hs hl]
  simp [zeroSl]
 | true =>
  have hi := (List.getElem?_eq_some_iff.1 hs).1
  have hlen := hw.fits.len
  have hsl : sl D (hnd i s.gen) = some s := by unfold sl; rw [atI_hnd hs hl (by omega)]; exact hs
  generalize hnd i s.gen = h at hsl
  have h1 := hw.alen hsl
  have h2 := lst_len hw (.inr ⟨s, hsl⟩ : h = 0 \/ ∃ s, sl D h = some s)
  rw [lst_of hsl] at h2
  exact ⟨h1, h2⟩
def PslP (w : World) (S : List Sl) (e : Ending) (w' : World) : Prop :=
 ∃ a, e = .returned (.slice a S.length S.length) /\ SlotsAt w' (Fw w' w.heap.size) a S /\ Below w.heap.size w w'
theorem pslots_any (w : World) (R : Nat -> Prop) (db : Nat) (D : Dc) (hv : View w R db D) (hw : WF D) :
  Calls Tryz.prog 39 #[.pointer (some ⟨db, 0, none⟩)] w (PslP w D.S) := by
 obtain ⟨sa, scap, hz0, hsc, hsl⟩ := hv.head
 have hdl := hv.lt db hv.docs
 have hlen := hw.fits.len
 have hB : (w.alloc (.cells #[.pointer (some ⟨db, 0, none⟩)] 27)).cell? ⟨w.heap.size, 0, none⟩ = some (.pointer (some ⟨db, 0, none⟩)) := (isCells_new w _ _).cell 0
 have hcal := cy_any (w.alloc (.cells #[.pointer (some ⟨db, 0, none⟩)] 27)) R w.heap.size D.S (fun b hb => by have := hv.lt b hb; simp; omega) hlen (fun i s hs => by have := hw.caps hs; omega) (fun i s hs W hb => cs1_any W R db w.heap.size i D s ((hb.cell (p := ⟨w.heap.size, 0, none⟩) (by simp)).trans hB) ((hv.below (below_new' w _)).below hb) hs)
 have HB0 : Hid (Below w.heap.size w (w.alloc (.cells #[.pointer (some ⟨db, 0, none⟩)] 27))) := below_new' w _
 clear hsl hB hv hw
 generalize D.S = S at *
 go_enter Tryz.func39, Tryz.ntmps39
 go_wp2_with fail
 refine hcal.mono ?_
 rintro e w1 ⟨L, xs, rfl, hst⟩
 have hsl : SlotsAt w1 (Fw w1 w.heap.size) (some ⟨w.heap.size + 1, 0, none⟩) S := by
  have := hst.done
  rw [World.size_alloc] at this
  exact this.to (fun b hb => hb.low (by omega)) (fun _ _ _ => rfl)
 have hb := hst.bel
 go_wp2
 go_ret
 exact ⟨_, rfl, hsl, HB0.out.trans (hb.mono (by simp))⟩
def ImgP (w : World) (D : Dc) (e : Ending) (w' : World) : Prop :=
 ∃ sa sc ra rc, e = .returned (.agg #[.slice sa D.S.length sc, .slice ra D.roots.length rc]) /\ D.S.length <= sc /\ D.roots.length <= rc /\ SlotsAt w' (Fw w' w.heap.size) sa D.S /\ HandsAt w' (Fw w' w.heap.size) ra D.roots /\ Below w.heap.size w w'
theorem pimage_any (w : World) (R : Nat -> Prop) (db : Nat) (D : Dc) (hv : View w R db D) (hw : WF D) :
  Calls Tryz.prog 15 #[.pointer (some ⟨db, 0, none⟩)] w (ImgP w D) := by
 obtain ⟨ra, rcap, hz1, hrc, hra⟩ := hv.roots
 have hdl := hv.lt db hv.docs
 have hrl := (roots_len hw).1
 have HSL : Hid (∀ W, Below w.heap.size w W -> Calls Tryz.prog 39 #[.pointer (some ⟨db, 0, none⟩)] W (PslP W D.S)) := fun W hb => pslots_any W R db D (hv.below hb) hw
 have HFH : Hid (∀ W, Below w.heap.size w W -> Calls Tryz.prog 35 #[.slice ra D.roots.length rcap] W (FrP W 42 1 D.roots.length (hvals D.roots))) := fun W hb => freshH_any W R ra D.roots rcap (hra.to (fun _ h => h) (fun b o hb' => hb.cell (p := ⟨b, o, none⟩) (hv.lt b hb'))) (by omega)
 obtain ⟨W0, hW0⟩ : ∃ W0, W0 = w.alloc (.cells #[.slice none 0 0, .slice none 0 0] 25) := ⟨_, rfl⟩
 have HB0 : Hid (Below w.heap.size w W0) := by rw [hW0]; exact below_new' w _
 have hs0 : W0.heap.size = w.heap.size + 1 := by rw [hW0]; simp
 have HX0 : Hid (IsCells W0 w.heap.size #[.slice none 0 0, .slice none 0 0]) := by rw [hW0]; exact isCells_new w _ _
 have HW0 : Hid (W0 = w.alloc (.cells #[.slice none 0 0, .slice none 0 0] 25)) := hW0
 clear hv hw hra hW0
 go_enter Tryz.func15, Tryz.ntmps15
 go_wp2
 rw [<- HW0.out]
 clear HW0
 have hsl := HSL.out W0.drew HB0.out.drew
 have q1 : W0.drew.cell? ⟨db, 1, none⟩ = some (.slice ra D.roots.length rcap) := (HB0.out.drew.cell (p := ⟨db, 1, none⟩) hdl).trans hz1
 go_region_held3 (fun W => W.cell? ⟨db, 1, none⟩ = some (.slice ra D.roots.length rcap)) (go_keep)
  (first
   | (go_at_call 39; refine hsl.mono ?_; rintro e w1 ⟨a, rfl, hsl1, hb1⟩; have hb1' : Below W0.heap.size W0 w1 := (Below.refl _ _).drew.trans hb1; have hs1 := hb1'.size; have k1 : w1.cell? ⟨db, 1, none⟩ = some (.slice ra D.roots.length rcap) := ((HB0.out.trans (hb1'.mono (by omega))).cell (p := ⟨db, 1, none⟩) hdl).trans hz1; have hfh := HFH.out w1 (HB0.out.trans (hb1'.mono (by omega))); have HSA : Hid (SlotsAt w1 (Fw w1 W0.heap.size) a D.S) := hsl1; have HB1 : Hid (Below W0.heap.size W0 w1) := hb1'; clear hb1 hb1' hsl1)
   | (go_at_call 35; refine hfh.mono ?_; rintro e w2 ⟨va, vc, rfl, hown2, hb2⟩; have hs2 := hb2.size; have k2 : w2.cell? ⟨db, 1, none⟩ = some (.slice ra D.roots.length rcap) := (hb2.cell (p := ⟨db, 1, none⟩) (by show db < w1.heap.size; omega)).trans k1; have HX2 : Hid (IsCells w2 w.heap.size #[.slice none 0 0, .slice none 0 0]) := (HX0.out.of_block (HB1.out.block _ (by omega))).of_block (hb2.block _ (by omega)); have x0 : w2.cell? ⟨w.heap.size, 0, none⟩ = some (.slice none 0 0) := HX2.out.cell 0; have x1 : w2.cell? ⟨w.heap.size, 1, none⟩ = some (.slice none 0 0) := HX2.out.cell 1; have y0 : w2.frozen? ⟨w.heap.size, 0, none⟩ = false := HX2.out.frozen 0; have y1 : w2.frozen? ⟨w.heap.size, 1, none⟩ = false := HX2.out.frozen 1; have nd : ¬ w.heap.size = db := (by omega); have nd' : ¬ db = w.heap.size := (by omega); have HO2 : Hid (w2.ownsRow w1.heap.size 42 1 (.slice va D.roots.length vc) D.roots.length (hvals D.roots)) := hown2; have HB2 : Hid (Below w1.heap.size w1 w2) := hb2; clear hown2 hb2))
 go_wp2
 refine bodyPost_ret (v := .agg #[.slice a D.S.length D.S.length, .slice va D.roots.length vc]) (by simp [results, Tryz.results15, go_sem, x0, x1]) rfl ⟨a, D.S.length, va, vc, rfl, Nat.le_refl _, (row_cell HO2.out).1, ?_⟩
 have ht : Turn (fun b => b = w.heap.size) w2 ((w2.setCell ⟨w.heap.size, 0, none⟩ (.slice a D.S.length D.S.length)).setCell ⟨w.heap.size, 1, none⟩ (.slice va D.roots.length vc)) := ((Turn.refl (fun b => b = w.heap.size) w2).setCell (A := fun b => b = w.heap.size) (p := ⟨w.heap.size, 0, none⟩) rfl _).setCell (A := fun b => b = w.heap.size) (p := ⟨w.heap.size, 1, none⟩) rfl _
 refine ⟨HSA.out.to (fun b hb => ?_) (fun b o hb => ?_), (hands_own HO2.out).to (fun b hb => ?_) (fun b o hb => ?_), ((HB0.out.trans (HB1.out.mono (by omega))).trans (HB2.out.mono (by omega))).trans (ht.below (by omega) (fun k hk => by omega))⟩
 ·have h1 := hb.1
  have h2 := hb.2.1
  exact (hb.below HB2.out (Nat.le_refl _)).to (by omega) (ht.block b (by omega) (by omega)) ht.size
 ·have h1 := hb.1
  have h2 := hb.2.1
  exact (World.cell?_of_block (w := w2) (a := ⟨b, o, none⟩) (ht.block b (by omega) (by omega))).trans (HB2.out.cell (p := ⟨b, o, none⟩) h2)
 ·have h1 := hb.2.1
  have h2 := hb.2.2.1
  exact hb.2.to (by omega) (ht.block b (by omega) (by omega)) ht.size
 ·have h1 := hb.2.1
  have h2 := hb.2.2.1
  exact World.cell?_of_block (w := w2) (a := ⟨b, o, none⟩) (ht.block b (by omega) (by omega))
structure Us (s : Sl) : Prop where
 gen1 : 1 <= s.gen
 dead : s.live = false -> s = zeroSl s.gen
 own : s.live = true -> ownE (ndOf s) = 0
 kind : s.live = true -> s.kind = 1 \/ s.kind = 2
 text : s.live = true -> s.kind = 2 -> s.kids = [] /\ s.name = ⟨#[]⟩ /\ s.attrs = []
 elem : s.live = true -> s.kind = 1 -> s.text = ⟨#[]⟩
 alen : s.attrs.length <= 32
 klen : s.kids.length <= 4096
theorem WF.us {D : Dc} (hw : WF D) {i : Nat} {s : Sl} (hs : D.S[i]? = some s) : Us s := by
 refine ⟨hw.gen1 i s hs, hw.dead i s hs, hw.own i s hs, fun hl => ?_, fun hl => (hw.used i s hs hl).1, fun hl => (hw.used i s hs hl).2, (hw.caps hs).1, (hw.caps hs).2⟩
 have hi := (List.getElem?_eq_some_iff.1 hs).1
 have hlen := hw.fits.len
 have hsl : sl D (hnd i s.gen) = some s := by unfold sl; rw [atI_hnd hs hl (by omega)]; exact hs
 generalize hnd i s.gen = h at hsl
 exact hw.kind hsl
theorem used_any (w : World) (R : Nat -> Prop) (s : Sl) (hu : Us s) (aa : Option Addr) (ac : Nat) (ka : Option Addr) (kc : Nat) (l1 : s.attrs.length <= ac) (l2 : s.kids.length <= kc) (hat : AttrsR w R aa s.attrs) (hkt : HandsAt w R ka s.kids) (hR : ∀ b, R b -> b < w.heap.size) :
  Calls Tryz.prog 34 #[.agg (slv s aa ac ka kc)] w (CsP w R s) := by
 have HU : Hid (Us s) := hu
 have HAT : Hid (AttrsR w R aa s.attrs) := hat
 have HKT : Hid (HandsAt w R ka s.kids) := hkt
 have HR : Hid (∀ b, R b -> b < w.heap.size) := hR
 unfold slv
 cases hl : s.live with
 | false =>
  have he := hu.dead hl
  have HE : Hid (s = zeroSl s.gen) := he
  clear hu hat hkt hR he
  generalize hat' : s.attrs.length = al at *
  generalize hkl' : s.kids.length = kl at *
  have HAL : Hid (s.attrs.length = al) := hat'
  have HKL : Hid (s.kids.length = kl) := hkl'
  clear hat' hkl'
  go_enter Tryz.func34, Tryz.ntmps34
  go_wp2
  refine bodyPost_ret (v := .agg (slv (zeroSl s.gen) none 0 none 0)) (by simp [results, Tryz.results34, go_sem, slv, zeroSl]) rfl ⟨none, 0, none, 0, by rw [<- HE.out], by rw [HE.out]; simp [zeroSl], by rw [HE.out]; simp [zeroSl], by rw [HE.out]; intro i p hp; simp [zeroSl] at hp, by rw [HE.out]; intro i p hp; simp [zeroSl] at hp, ?_⟩
  exact (below_new' w _).alloc (by simp) _
 | true =>
  rcases hu.kind hl with hk | hk
  ·have HE : Hid (s.text = ⟨#[]⟩) := hu.elem hl hk
   have hkb : (s.kind == 2) = false := by rw [hk]; rfl
   have HK : Hid (s.kind = 1) := hk
   have HL : Hid (s.live = true) := hl
   clear hu hat hkt hR hk
   generalize hat' : s.attrs.length = al at *
   generalize hkl' : s.kids.length = kl at *
   have HAL : Hid (s.attrs.length = al) := hat'
   have HKL : Hid (s.kids.length = kl) := hkl'
   clear hat' hkl'
   go_enter Tryz.func34, Tryz.ntmps34
   go_wp2
   refine bodyPost_ret (v := .agg (slv s aa ac ka kc)) (by simp [results, Tryz.results34, go_sem, slv, HE.out, HAL.out, HKL.out, HL.out]) rfl ⟨aa, ac, ka, kc, rfl, by rw [HAL.out]; exact l1, by rw [HKL.out]; exact l2, ?_⟩
   have hb : ∀ v c1, Below w.heap.size w (((w.alloc (.cells c1 75)).alloc v)) := fun v c1 => (below_new' w _).alloc (by simp) _
   refine ⟨HAT.out.to (fun _ h => h) (fun b o hb' => ?_), HKT.out.to (fun _ h => h) (fun b o hb' => ?_), ?_⟩
   ·exact (hb _ _).cell (p := ⟨b, o, none⟩) (HR.out b hb')
   ·exact (hb _ _).cell (p := ⟨b, o, none⟩) (HR.out b hb')
   ·exact hb _ _
  ·obtain ⟨t1, t2, t3⟩ := hu.text hl hk
   have HT1 : Hid (s.kids = []) := t1
   have HT2 : Hid (s.name = ⟨#[]⟩) := t2
   have HT3 : Hid (s.attrs = []) := t3
   have hkb : (s.kind == 2) = true := by rw [hk]; rfl
   have HK : Hid (s.kind = 2) := hk
   have HL : Hid (s.live = true) := hl
   clear hu hat hkt hR hk t1 t2 t3
   generalize hat' : s.attrs.length = al at *
   generalize hkl' : s.kids.length = kl at *
   have HAL : Hid (s.attrs.length = al) := hat'
   have HKL : Hid (s.kids.length = kl) := hkl'
   clear hat' hkl'
   go_enter Tryz.func34, Tryz.ntmps34
   go_wp2
   refine bodyPost_ret (v := .agg (slv s none 0 none 0)) (by simp [results, Tryz.results34, go_sem, slv, HT1.out, HT2.out, HT3.out, HL.out]) rfl ⟨none, 0, none, 0, rfl, by rw [HT3.out]; simp, by rw [HT1.out]; simp, ?_⟩
   refine ⟨?_, ?_, (below_new' w _).alloc (by simp) _⟩
   ·rw [HT3.out]; intro i p hp; simp at hp
   ·rw [HT1.out]; intro i p hp; simp at hp
theorem ownE_nd (s : Sl) : ownE (mkN s ([] : List (T 0)) : Nd (T 0)) = ownE (ndOf s) := rfl
theorem chk_us {s : Sl} (h : ownE (ndOf s) = 0) : (chk 1 ((mkN s [] : Nd (T 0)) : T 1) 1 0).2 = 0 := by
 have h1 : ownE ((mkN s [] : Nd (T 0))) = 0 := by rw [ownE_nd]; exact h
 have h2 : kidsT ((mkN s [] : Nd (T 0))) = [] := by unfold kidsT; split <;> rfl
 show (if 64 < (1 : Int) \/ 4096 <= (0 : Int) then ((0 : Int), (2 : Int)) else if ownE ((mkN s [] : Nd (T 0))) = 0 then chkL (fun k x => chk 0 k (1 + 1) x) (kidsT ((mkN s [] : Nd (T 0)))) (0 + 1) else (0, ownE ((mkN s [] : Nd (T 0))))).2 = 0
 rw [if_neg (by omega), if_pos h1, h2]
 rfl
theorem canbe_any (w : World) (R : Nat -> Prop) (s : Sl) (hu : Us s) (aa : Option Addr) (ac : Nat) (ka : Option Addr) (kc : Nat) (l1 : s.attrs.length <= ac) (l2 : s.kids.length <= kc) (hat : AttrsR w R aa s.attrs) (hR : ∀ b, R b -> b < w.heap.size) :
  Calls Tryz.prog 30 #[.agg (slv s aa ac ka kc)] w fun e w' => e = .returned (.bool true) /\ Below w.heap.size w w' := by
 have hg : (0 : Int) < (s.gen : Int) := by have := hu.gen1; omega
 have HCH : Hid (s.live = true -> ∀ W, Below w.heap.size w W -> Calls Tryz.prog 63 #[.agg #[.int .i64 s.kind, .string s.name, .slice aa s.attrs.length ac, .string s.text, .slice none 0 0]] W fun e w' => e = .returned (.int .i64 0) /\ Below W.heap.size W w') := fun hl W hb => by
  have ht : TreeAt W 0 W.heap.size 1 #[.int .i64 s.kind, .string s.name, .slice aa s.attrs.length ac, .string s.text, .slice none 0 0] ((mkN s [] : Nd (T 0)) : T 1) := by
   refine ⟨aa, ac, none, 0, rfl, ?_, by show 0 <= maxK; exact Nat.zero_le _, l1, Nat.le_refl _, ?_, fun i k hk => by cases hk⟩
   ·have := hu.alen
    show s.attrs.length <= maxA
    unfold maxA
    omega
   ·exact (hat.to (R' := fun b => 0 <= b /\ b < W.heap.size) (fun b hb' => ⟨Nat.zero_le _, by have := hR b hb'; have := hb.size; omega⟩) (fun b o hb' => hb.cell (p := ⟨b, o, none⟩) (hR b hb'))).toAt
  have := Check_any 1 W _ _ 0 W.heap.size ht (Nat.le_refl _)
  rw [chk_us (hu.own hl)] at this
  exact this
 obtain ⟨W0, hW0⟩ : ∃ W0, W0 = (w.alloc (.cells #[.int .u32 (s.gen : Int), .bool s.live, .int .i64 s.kind, .string s.name, .slice aa s.attrs.length ac, .string s.text, .int .u64 (s.parent : Int), .slice ka s.kids.length kc] 75)).alloc (.cells #[.int .i64 s.kind, .string s.name, .slice aa s.attrs.length ac, .string s.text, .slice none 0 0] 46) := ⟨_, rfl⟩
 have HB0 : Hid (Below w.heap.size w W0) := by rw [hW0]; exact (below_new' w _).alloc (by simp) _
 have HW0 : Hid (W0 = (w.alloc (.cells #[.int .u32 (s.gen : Int), .bool s.live, .int .i64 s.kind, .string s.name, .slice aa s.attrs.length ac, .string s.text, .int .u64 (s.parent : Int), .slice ka s.kids.length kc] 75)).alloc (.cells #[.int .i64 s.kind, .string s.name, .slice aa s.attrs.length ac, .string s.text, .slice none 0 0] 46)) := hW0
 unfold slv
 clear hu hat hR hW0
 cases hl : s.live with
 | false =>
  rw [hl] at HW0
  clear HCH
  go_enter Tryz.func30, Tryz.ntmps30
  go_wp2
  go_ret
  rw [<- HW0.out]
  exact ⟨rfl, HB0.out⟩
 | true =>
  rw [hl] at HW0
  have hch := HCH.out hl W0 HB0.out
  rw [HW0.out] at hch
  clear HCH
  go_enter Tryz.func30, Tryz.ntmps30
  go_wp2_with fail
  refine hch.mono ?_
  rintro e w1 ⟨rfl, hb⟩
  rw [<- HW0.out] at hb
  have HB1 : Hid (Below w.heap.size w w1) := HB0.out.trans (hb.mono HB0.out.size)
  clear hb hch
  go_wp2
  go_ret
  exact ⟨rfl, HB1.out⟩
end Go.Proofs.YtnhajpeijkbbeaaGreat
