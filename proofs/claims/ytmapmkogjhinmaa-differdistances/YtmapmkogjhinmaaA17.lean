/- document: that of a forest, by the program. -/
import Derived.Test.YtmapmkogjhinmaaA12
import Derived.Test.YtmapmkogjhinmaaA16
import Derived.Test.YtmapmkogjhinmaaA05
import Derived.Test.YtmapmkogjhinmaaA08
import Derived.Test.YtmapmkogjhinmaaA06
import Derived.Test.YtmapmkogjhinmaaA07
import Derived.Deep.RegionHeld3
import Derived.Deep.RegionLaw
import Derived.Deep.DeepCutAuto
namespace Go.Proofs.Ytmapmkogjhinmaa
open Go.RowKit
set_option maxRecDepth 100000
set_option maxHeartbeats 4000000
set_option linter.unusedVariables false
set_option linter.unusedSimpArgs false
theorem pdoc_zero (w : World) (q : TypeId) : PDoc (w.alloc (.cells #[.slice none 0 0, .slice none 0 0, .int .i64 0] q)) (fun b => if b = w.heap.size then 1 else 0) w.heap.size D0 := by
 have hx := isCells_new w #[.slice none 0 0, .slice none 0 0, .int .i64 0] q
 refine ⟨none, 0, none, 0, [], ?_⟩
 exact ⟨hx, own_nil _ _ _ _, own_nil _ _ _ _, rfl, fun i s p h => by simp [D0] at h, by simp, fun b h => by simp [Value.ownBlock] at h, fun b h => by simp [Value.ownBlock] at h, fun i p b h => by simp at h, fun i p b h => by simp at h, fun b hb => by
   by_cases e : b = w.heap.size
   ·subst e; simp
   ·simp [e] at hb⟩
def DocP {n : Nat} (w : World) (L : List (T n)) (e : Ending) (w' : World) : Prop :=
 Below w.heap.size w w' /\ ((canE L ≠ 0 /\ e = .returned (.tuple #[.pointer none, .int .i64 (canE L)])) \/
  (canE L = 0 /\ ∃ db ro, e = .returned (.tuple #[.pointer (some ⟨db, 0, none⟩), .int .i64 0]) /\ PDoc w' ro db (docD L L.length) /\ ∀ b, ro b ≠ 0 -> w.heap.size <= b))
structure DocSt {n : Nat} (w wr : World) (L : List (T n)) (db i : Nat) : Prop where
 bel : Below w.heap.size w wr
 doc : ∃ ro, PDoc wr ro db (docD L i) /\ ∀ b, ro b ≠ 0 -> w.heap.size <= b
 sum : ((L.take i).map (ndT n)).sum <= 4096
theorem document_any (n : Nat) (w : World) (lo : Nat) (a : Option Addr) (L : List (T n)) (c : Nat) (hk : KidsAt w lo w.heap.size n a L) (hl : L.length <= maxK) :
  Calls Try.prog 14 #[.slice a L.length c] w (DocP w L) := by
 have HK : Hid (KidsAt w lo w.heap.size n a L) := hk
 unfold maxK at hl
 clear hk
 obtain ⟨P, hP⟩ : ∃ P, P = DocP w L := ⟨_, rfl⟩
 rw [<- hP]
 have HP : Hid (P = DocP w L) := hP
 clear hP
 go_enter Try.func14, Try.ntmps14
 go_wp2
 go_loopw [14] (fun iv wr => ∃ j : Nat, j <= L.length /\ iv = .int .i64 (j : Int) /\ Hid (∀ (i : Nat) (t : T n), i < j -> L[i]? = some t -> (chk n t 1 0).2 = 0) /\ Hid (Below w.heap.size w wr)) (fun iv _ => L.length - (intOf iv).toNat)
 case atStart => exact ⟨0, by omega, rfl, fun i t h => by omega, Below.refl _ _⟩
 case round =>
  obtain ⟨j, hj, rfl, hck, hbw⟩ := hrel
  have hbs := hbw.out.size
  by_cases hlt : j < L.length
  ·obtain ⟨k, hk⟩ : ∃ k, L[j]? = some k := ⟨_, List.getElem?_eq_getElem hlt⟩
   have hkt' := HK.out.after hbw.out
   obtain ⟨b, o, kk, nm, a', al', ac', tx, ka2, kl2, kc2, rfl, hb1, hb2, c0, c1, c2, c3, c4, htr⟩ := hkt'.get hk
   have tl : (j : Int) < (L.length : Int) := by omega
   have t0 : (0 : Int) <= (j : Int) := by omega
   have hcal := Check_any n (wr.alloc (.cells #[.int .i64 kk, .string nm, .slice a' al' ac', .string tx, .slice ka2 kl2 kc2] 36)) _ k lo wr.heap.size (htr.below (below_new' wr _) (Nat.le_refl _)) (by simp)
   have HB0 : Hid (Below w.heap.size w (wr.alloc (.cells #[.int .i64 kk, .string nm, .slice a' al' ac', .string tx, .slice ka2 kl2 kc2] 36))) := hbw.out.alloc hbs _
   have hs0 : (wr.alloc (.cells #[.int .i64 kk, .string nm, .slice a' al' ac', .string tx, .slice ka2 kl2 kc2] 36)).heap.size = wr.heap.size + 1 := by simp
   have HKK : Hid (L[j]? = some k) := hk
   clear hkt' htr hk
   by_cases hz : (chk n k 1 0).2 = 0
   ·rw [hz] at hcal
    have HCK : Hid (∀ (i : Nat) (t : T n), i < j + 1 -> L[i]? = some t -> (chk n t 1 0).2 = 0) := fun i t hi ht => by
     rcases Nat.lt_or_ge i j with h | h
     ·exact hck.out i t h ht
     ·have : i = j := by omega
      subst this
      rw [HKK.out] at ht
      cases ht
      exact hz
    clear hz hck HKK
    go_wp2_with fail
    refine hcal.mono ?_
    rintro e w2 ⟨rfl, hb2'⟩
    have HB2 : Hid (Below w.heap.size w w2) := HB0.out.trans (hb2'.mono (by rw [hs0]; omega))
    clear hcal hb2' c0 c1 c2 c3 c4
    go_wp2
    go_roundw
    case rel => exact ⟨j + 1, by omega, by go_num, HCK, HB2⟩
    case measure => simp [intOf]; omega
   ·have HCE : Hid (canE L = (chk n k 1 0).2) := canE_at hck.out HKK.out hz
    generalize (chk n k 1 0).2 = z at *
    have hzb : (z == 0) = false := by simp [hz]
    have HZ : Hid (z ≠ 0) := hz
    clear hck HKK hz
    go_wp2_with fail
    refine hcal.mono ?_
    rintro e w2 ⟨rfl, hb2'⟩
    have HB2 : Hid (Below w.heap.size w w2) := HB0.out.trans (hb2'.mono (by rw [hs0]; omega))
    clear hcal hb2' c0 c1 c2 c3 c4
    go_wp2
    rw [HP.out]
    exact ⟨HB2.out, .inl ⟨by rw [HCE.out]; exact HZ.out, by rw [HCE.out]; rfl⟩⟩
  ·have hje : j = L.length := by omega
   subst hje
   have HCK : Hid (∀ (i : Nat) (t : T n), L[i]? = some t -> (chk n t 1 0).2 = 0) := fun i t ht => hck.out i t (List.getElem?_eq_some_iff.1 ht).1 ht
   have HS0 : Hid (DocSt w (wr.alloc (.cells #[.slice none 0 0, .slice none 0 0, .int .i64 0] 51)) L wr.heap.size 0) := ⟨hbw.out.alloc hbs _, ⟨_, pdoc_zero wr 51, fun b hb => by
    by_cases e : b = wr.heap.size
    ·omega
    ·simp [e] at hb⟩, by simp⟩
   have hdb : w.heap.size <= wr.heap.size := hbs
   clear hlt hck hbw hbs
   generalize hdbq : wr.heap.size = db at *
   go_wp2
   go_loopw [28] (fun iv wq => ∃ j : Nat, j <= L.length /\ iv = .int .i64 (j : Int) /\ Hid (DocSt w wq L db j)) (fun iv _ => L.length - (intOf iv).toNat)
   case atStart => exact ⟨0, by omega, rfl, HS0⟩
   case round =>
    obtain ⟨j, hj, rfl, hst⟩ := hrel
    have hbs := hst.out.bel.size
    clear HS0
    by_cases hlt : j < L.length
    ·obtain ⟨k, hk⟩ : ∃ k, L[j]? = some k := ⟨_, List.getElem?_eq_getElem hlt⟩
     obtain ⟨b, o, kk, nm, a', al', ac', tx, ka2, kl2, kc2, rfl, hb1, hb2, c0, c1, c2, c3, c4, htr⟩ := (HK.out.below hst.out.bel (Nat.le_refl _)).get hk
     obtain ⟨ro, hpd, hro⟩ := hst.out.doc
     have tl : (j : Int) < (L.length : Int) := by omega
     have t0 : (0 : Int) <= (j : Int) := by omega
     have hbr : b < wr.heap.size := by omega
     have hwd := wf_doc L j
     have hcal := pins_any n (wr.alloc (.cells #[.int .i64 kk, .string nm, .slice a' al' ac', .string tx, .slice ka2 kl2 kc2] 36)) _ k lo w.heap.size ro db 0 2 (docD L j) (htr.below (below_new' wr _) hbs) (by simp; omega) (fun b hb h => by have := hro b hb; omega) (hpd.turn (A := fun _ => False) ((Turn.refl _ _).alloc _) (fun _ _ h => h)) hwd (by omega)
     have hnx := docD_next HCK.out hk hst.out.sum
     have hdn := docD_step hk
     rw [hnx, <- hdn] at hcal
     have HB0 : Hid (Below w.heap.size w (wr.alloc (.cells #[.int .i64 kk, .string nm, .slice a' al' ac', .string tx, .slice ka2 kl2 kc2] 36))) := hst.out.bel.alloc hbs _
     have hs0 : (wr.alloc (.cells #[.int .i64 kk, .string nm, .slice a' al' ac', .string tx, .slice ka2 kl2 kc2] 36)).heap.size = wr.heap.size + 1 := by simp
     have HRO : Hid (∀ b, ro b ≠ 0 -> w.heap.size <= b) := hro
     generalize (insD (docD L j) 2 0 n k).2 = hh at *
     clear hpd hwd hnx hdn htr hk hst
     by_cases hgt : 4096 < ((L.take (j + 1)).map (ndT n)).sum
     ·rw [if_pos hgt] at hcal
      have HCE : Hid (canE L = 2) := by
       show _ = _
       rw [canE_all HCK.out, if_pos]
       have := sum_upto (L.map (ndT n)) (j + 1)
       rw [<- List.map_take] at this
       omega
      clear hgt
      go_wp2_with fail
      refine hcal.mono ?_
      rintro e w2 ⟨rfl, ht2, ro2, hp2, hn2⟩
      have HB2 : Hid (Below w.heap.size w w2) := HB0.out.trans (ht2.below (by rw [hs0]; omega) (fun k hk => HRO.out k hk))
      clear hcal ht2 hp2 hn2 c0 c1 c2 c3 c4
      go_wp2
      rw [HP.out]
      exact ⟨HB2.out, .inl ⟨by rw [HCE.out]; decide, by rw [HCE.out]; rfl⟩⟩
     ·rw [if_neg hgt] at hcal
      have HSU : Hid (((L.take (j + 1)).map (ndT n)).sum <= 4096) := by show _ <= _; omega
      clear hgt
      go_wp2_with fail
      refine hcal.mono ?_
      rintro e w2 ⟨rfl, ht2, ro2, hp2, hn2⟩
      have HST2 : Hid (DocSt w w2 L db (j + 1)) := ⟨HB0.out.trans (ht2.below (by rw [hs0]; omega) (fun k hk => HRO.out k hk)), ⟨ro2, hp2, fun b hb => by
       rcases hn2 b hb with h | h
       ·exact HRO.out b h
       ·rw [hs0] at h; omega⟩, HSU.out⟩
      clear hcal ht2 hp2 hn2 c0 c1 c2 c3 c4
      go_wp2
      go_roundw
      case rel => exact ⟨j + 1, by omega, by go_num, HST2⟩
      case measure => simp [intOf]; omega
    ·have hje : j = L.length := by omega
     subst hje
     have HCE : Hid (canE L = 0) := by
      show _ = _
      have := hst.out.sum
      rw [List.take_length] at this
      rw [canE_all HCK.out, if_neg (by omega)]
     clear hlt
     go_wp2
     rw [HP.out]
     obtain ⟨ro, h1, h2⟩ := hst.out.doc
     exact ⟨hst.out.bel, .inr ⟨HCE.out, db, ro, rfl, h1, h2⟩⟩
def ForS {n : Nat} (TS : (Nat -> Prop) -> Array Value -> T n -> Prop) (R : Nat -> Prop) (xs : List Value) (L : List (T n)) : Prop :=
 xs.length = L.length * 5 /\ (∀ u ∈ xs, u.oneCell' = true) /\ ∃ Rk : Nat -> Nat -> Prop,
  (∀ i k, L[i]? = some k -> ∃ u : Array Value, u.size = 5 /\ (∀ j, j < 5 -> xs[i * 5 + j]? = u[j]?) /\ TS (Rk i) u k) /\ (∀ i b, i < L.length -> Rk i b -> R b) /\ (∀ i j b, i < j -> j < L.length -> Rk i b -> ¬ Rk j b)
def TreeS (w : World) : (n : Nat) -> (Nat -> Prop) -> Array Value -> T n -> Prop
 | 0, _, _, _ => False
 | n + 1, R, v, t => ∃ (a : Option Addr) (ac : Nat) (ka : Option Addr) (kc : Nat) (xs : List Value) (Rf : Nat -> Prop),
   v = tv t.kind t.name a t.attrs.length ac t.text ka t.kids.length kc /\ t.attrs.length <= 32 /\ t.kids.length <= 4096 /\
   w.ownsRow 0 99 2 (.slice a t.attrs.length ac) t.attrs.length (attrCells t.attrs) /\ w.ownsRow 0 36 5 (.slice ka t.kids.length kc) t.kids.length xs /\
   ForS (TreeS w n) Rf xs t.kids /\ (∀ b, Rf b -> R b) /\ (∀ b, (Value.slice a t.attrs.length ac).ownBlock = some b -> R b /\ ¬ Rf b) /\
   (∀ b, (Value.slice ka t.kids.length kc).ownBlock = some b -> R b /\ ¬ Rf b /\ (Value.slice a t.attrs.length ac).ownBlock ≠ some b)
theorem ForS.mono {n : Nat} {TS TS' : (Nat -> Prop) -> Array Value -> T n -> Prop} {R R' : Nat -> Prop} {xs : List Value} {L : List (T n)} (h : ForS TS R xs L) (hT : ∀ S u k, (∀ b, S b -> R b) -> TS S u k -> TS' S u k) (hR : ∀ b, R b -> R' b) : ForS TS' R' xs L := by
 obtain ⟨h1, h2, Rk, h3, h4, h5⟩ := h
 refine ⟨h1, h2, Rk, fun i k hk => ?_, fun i b hi hb => hR _ (h4 i b hi hb), h5⟩
 obtain ⟨u, g1, g2, g3⟩ := h3 i k hk
 exact ⟨u, g1, g2, hT _ _ _ (fun b hb => h4 i b (List.getElem?_eq_some_iff.1 hk).1 hb) g3⟩
theorem TreeS.to {w w' : World} : ∀ {n : Nat} {R R' : Nat -> Prop} {v : Array Value} {t : T n}, TreeS w n R v t -> (∀ b, R b -> w'.heap[b]? = w.heap[b]?) -> (∀ b, R b -> R' b) -> TreeS w' n R' v t
 | 0, _, _, _, _, h, _, _ => h.elim
 | n + 1, R, R', v, t, h, hw, hR => by
  obtain ⟨a, ac, ka, kc, xs, Rf, h1, h2, h3, h4, h5, h6, h7, h8, h9⟩ := h
  refine ⟨a, ac, ka, kc, xs, Rf, h1, h2, h3, own_of_block h4 (fun k hk => hw k (h8 k hk).1), own_of_block h5 (fun k hk => hw k (h9 k hk).1), h6.mono (fun S u k hS hk => hk.to (fun b hb => hw b (h7 b (hS b hb))) (fun _ hb => hb)) (fun _ hb => hb), fun b hb => hR b (h7 b hb), fun b hb => ⟨hR b (h8 b hb).1, (h8 b hb).2⟩, fun b hb => ⟨hR b (h9 b hb).1, (h9 b hb).2⟩⟩
theorem ForS.to {w w' : World} {n : Nat} {R R' : Nat -> Prop} {xs : List Value} {L : List (T n)} (h : ForS (TreeS w n) R xs L) (hw : ∀ b, R b -> w'.heap[b]? = w.heap[b]?) (hR : ∀ b, R b -> R' b) : ForS (TreeS w' n) R' xs L :=
 h.mono (fun S u k hS hk => hk.to (fun b hb => hw b (hS b hb)) (fun _ hb => hb)) hR
theorem ForS.nil {n : Nat} (TS : (Nat -> Prop) -> Array Value -> T n -> Prop) (R : Nat -> Prop) : ForS TS R [] [] := ⟨rfl, fun _ h => by simp at h, fun _ _ => False, fun i k h => by simp at h, fun i b h => by simp at h, fun i j b _ h => by simp at h⟩
theorem TreeS.form {w : World} : ∀ {n : Nat} {R : Nat -> Prop} {v : Array Value} {t : T n}, TreeS w n R v t -> ∃ k nm a al ac tx ka kl kc, v = #[.int .i64 k, .string nm, .slice a al ac, .string tx, .slice ka kl kc]
 | 0, _, _, _, h => h.elim
 | n + 1, _, v, t, h => by
  obtain ⟨a, ac, ka, kc, _, _, h1, _⟩ := h
  exact ⟨_, _, _, _, _, _, _, _, _, h1⟩
theorem ForS.snoc {w : World} {n : Nat} {R S : Nat -> Prop} {xs : List Value} {L : List (T n)} (h : ForS (TreeS w n) R xs L) {u : Array Value} {k : T n} (hu : TreeS w n S u k) (hd : ∀ b, R b -> ¬ S b) : ForS (TreeS w n) (fun b => R b \/ S b) (xs ++ u.toList) (L ++ [k]) := by
 obtain ⟨kk, nm, a, al, ac, tx, ka, kl, kc, rfl⟩ := hu.form
 obtain ⟨h1, h2, Rk, h3, h4, h5⟩ := h
 refine ⟨by simp [h1]; omega, fun x hx => ?_, fun i => if i < L.length then Rk i else S, fun i q hq => ?_, fun i b hi hb => ?_, fun i j b hij hj hb => ?_⟩
 ·rw [List.mem_append] at hx
  rcases hx with hx | hx
  ·exact h2 x hx
  ·exact tree_one _ _ _ _ _ _ _ _ _ x (by simpa using hx)
 ·by_cases hi : i < L.length
  ·rw [List.getElem?_append_left hi] at hq
   obtain ⟨u', g1, g2, g3⟩ := h3 i q hq
   refine ⟨u', g1, fun j hj => ?_, by simpa [hi] using g3⟩
   rw [List.getElem?_append_left (by rw [h1]; omega)]
   exact g2 j hj
  ·have hi2 : i = L.length := by
    have := (List.getElem?_eq_some_iff.1 hq).1
    simp at this; omega
   subst hi2
   rw [List.getElem?_append_right (Nat.le_refl _)] at hq
   simp at hq
   subst hq
   refine ⟨_, rfl, fun j hj => ?_, by simpa using hu⟩
   rw [List.getElem?_append_right (by rw [h1]; omega), h1]
   simp
 ·by_cases hi2 : i < L.length
  ·simp only [hi2, if_true] at hb
   exact .inl (h4 i b hi2 hb)
  ·simp only [hi2, if_false] at hb
   exact .inr hb
 ·have hj2 : j <= L.length := by simp at hj; omega
  have hi2 : i < L.length := by omega
  simp only [hi2, if_true] at hb
  by_cases hj3 : j < L.length
  ·simp only [hj3, if_true]
   exact h5 i j b hij hj3 hb
  ·simp only [hj3, if_false]
   exact hd b (h4 i b hi2 hb)
def BasP (w : World) (s : Sl) (e : Ending) (w' : World) : Prop :=
 ∃ a cap, e = .returned (.agg (tv s.kind s.name a s.attrs.length cap s.text none 0 0)) /\ w'.ownsRow (w.heap.size + 2) 99 2 (.slice a s.attrs.length cap) s.attrs.length (attrCells s.attrs) /\ Below w.heap.size w w'
theorem bare_s (w : World) (R : Nat -> Prop) (s : Sl) (aa : Option Addr) (ac : Nat) (ka : Option Addr) (kl kc : Nat) (h : AttrsR w R aa s.attrs) (hR : ∀ b, R b -> b < w.heap.size) (hl : s.attrs.length <= 1000000) :
  Calls Try.prog 41 #[.agg #[.int .u32 (s.gen : Int), .bool s.live, .int .i64 s.kind, .string s.name, .slice aa s.attrs.length ac, .string s.text, .int .u64 (s.parent : Int), .slice ka kl kc]] w (BasP w s) := by
 have HFR : Hid (∀ W, Below w.heap.size w W -> Calls Try.prog 51 #[.slice aa s.attrs.length ac] W (FrP W 99 2 s.attrs.length (attrCells s.attrs))) := fun W hb => freshA_any W R aa s.attrs ac (h.to (fun _ h => h) (fun b o hb' => hb.cell (p := ⟨b, o, none⟩) (hR b hb'))) hl
 clear h hR
 obtain ⟨W0, hW0⟩ : ∃ W0, W0 = ((w.alloc (.cells #[.int .u32 (s.gen : Int), .bool s.live, .int .i64 s.kind, .string s.name, .slice aa s.attrs.length ac, .string s.text, .int .u64 (s.parent : Int), .slice ka kl kc] 77)).alloc (.cells #[.int .i64 0, .string ⟨#[]⟩, .slice none 0 0, .string ⟨#[]⟩, .slice none 0 0] 36)) := ⟨_, rfl⟩
 have HB0 : Hid (Below w.heap.size w W0) := by rw [hW0]; exact (below_new' w _).alloc (by simp) _
 have hs0 : W0.heap.size = w.heap.size + 2 := by rw [hW0]; simp
 have HX1 : Hid (IsCells W0 w.heap.size #[.int .u32 (s.gen : Int), .bool s.live, .int .i64 s.kind, .string s.name, .slice aa s.attrs.length ac, .string s.text, .int .u64 (s.parent : Int), .slice ka kl kc]) := by rw [hW0]; exact (isCells_new w _ 77).alloc _
 have HX2 : Hid (IsCells W0 (w.heap.size + 1) #[.int .i64 0, .string ⟨#[]⟩, .slice none 0 0, .string ⟨#[]⟩, .slice none 0 0]) := by
  show IsCells _ _ _
  rw [hW0]
  have := isCells_new (w.alloc (.cells #[.int .u32 (s.gen : Int), .bool s.live, .int .i64 s.kind, .string s.name, .slice aa s.attrs.length ac, .string s.text, .int .u64 (s.parent : Int), .slice ka kl kc] 77)) #[.int .i64 0, .string ⟨#[]⟩, .slice none 0 0, .string ⟨#[]⟩, .slice none 0 0] 36
  simpa using this
 have HW0 : Hid (W0 = ((w.alloc (.cells #[.int .u32 (s.gen : Int), .bool s.live, .int .i64 s.kind, .string s.name, .slice aa s.attrs.length ac, .string s.text, .int .u64 (s.parent : Int), .slice ka kl kc] 77)).alloc (.cells #[.int .i64 0, .string ⟨#[]⟩, .slice none 0 0, .string ⟨#[]⟩, .slice none 0 0] 36))) := hW0
 clear hW0
 go_enter Try.func41, Try.ntmps41
 go_wp2
 rw [<- HW0.out]
 have hfr := HFR.out W0.drew HB0.out.drew
 have hc1 := HX1.out.cell
 have hc2 := HX2.out.cell
 have hf2 := HX2.out.frozen
 have q0 : W0.drew.cell? ⟨w.heap.size, 2, none⟩ = some (.int .i64 s.kind) := by show W0.cell? _ = _; rw [hc1]; rfl
 have q1 : W0.drew.cell? ⟨w.heap.size, 3, none⟩ = some (.string s.name) := by show W0.cell? _ = _; rw [hc1]; rfl
 have q2 : W0.drew.cell? ⟨w.heap.size, 4, none⟩ = some (.slice aa s.attrs.length ac) := by show W0.cell? _ = _; rw [hc1]; rfl
 have q3 : W0.drew.cell? ⟨w.heap.size, 5, none⟩ = some (.string s.text) := by show W0.cell? _ = _; rw [hc1]; rfl
 go_region_held3 (fun W => W.cell? ⟨w.heap.size, 2, none⟩ = some (.int .i64 s.kind) /\ W.cell? ⟨w.heap.size, 3, none⟩ = some (.string s.name) /\ W.cell? ⟨w.heap.size, 4, none⟩ = some (.slice aa s.attrs.length ac) /\ W.cell? ⟨w.heap.size, 5, none⟩ = some (.string s.text)) (go_keep)
  (first | (go_at_call 51; refine hfr.mono ?_; rintro e w1 ⟨va, vc, rfl, hown, hb⟩; have r0 := (hb.cell (p := ⟨w.heap.size, 2, none⟩) (by show w.heap.size < W0.heap.size; omega)).trans q0; have r1 := (hb.cell (p := ⟨w.heap.size, 3, none⟩) (by show w.heap.size < W0.heap.size; omega)).trans q1; have r2 := (hb.cell (p := ⟨w.heap.size, 4, none⟩) (by show w.heap.size < W0.heap.size; omega)).trans q2; have r3 := (hb.cell (p := ⟨w.heap.size, 5, none⟩) (by show w.heap.size < W0.heap.size; omega)).trans q3; have s0 : w1.cell? ⟨w.heap.size + 1, 0, none⟩ = some (.int .i64 0) := (hb.cell (p := ⟨w.heap.size + 1, 0, none⟩) (by show w.heap.size + 1 < W0.heap.size; omega)).trans (hc2 0); have z0 : w1.frozen? ⟨w.heap.size + 1, 0, none⟩ = false := (hb.frozen (p := ⟨w.heap.size + 1, 0, none⟩) (by show w.heap.size + 1 < W0.heap.size; omega)).trans (hf2 0); have s1 : w1.cell? ⟨w.heap.size + 1, 1, none⟩ = some (.string ⟨#[]⟩) := (hb.cell (p := ⟨w.heap.size + 1, 1, none⟩) (by show w.heap.size + 1 < W0.heap.size; omega)).trans (hc2 1); have z1 : w1.frozen? ⟨w.heap.size + 1, 1, none⟩ = false := (hb.frozen (p := ⟨w.heap.size + 1, 1, none⟩) (by show w.heap.size + 1 < W0.heap.size; omega)).trans (hf2 1); have s2 : w1.cell? ⟨w.heap.size + 1, 2, none⟩ = some (.slice none 0 0) := (hb.cell (p := ⟨w.heap.size + 1, 2, none⟩) (by show w.heap.size + 1 < W0.heap.size; omega)).trans (hc2 2); have z2 : w1.frozen? ⟨w.heap.size + 1, 2, none⟩ = false := (hb.frozen (p := ⟨w.heap.size + 1, 2, none⟩) (by show w.heap.size + 1 < W0.heap.size; omega)).trans (hf2 2); have s3 : w1.cell? ⟨w.heap.size + 1, 3, none⟩ = some (.string ⟨#[]⟩) := (hb.cell (p := ⟨w.heap.size + 1, 3, none⟩) (by show w.heap.size + 1 < W0.heap.size; omega)).trans (hc2 3); have z3 : w1.frozen? ⟨w.heap.size + 1, 3, none⟩ = false := (hb.frozen (p := ⟨w.heap.size + 1, 3, none⟩) (by show w.heap.size + 1 < W0.heap.size; omega)).trans (hf2 3); have s4 : w1.cell? ⟨w.heap.size + 1, 4, none⟩ = some (.slice none 0 0) := (hb.cell (p := ⟨w.heap.size + 1, 4, none⟩) (by show w.heap.size + 1 < W0.heap.size; omega)).trans (hc2 4); have z4 : w1.frozen? ⟨w.heap.size + 1, 4, none⟩ = false := (hb.frozen (p := ⟨w.heap.size + 1, 4, none⟩) (by show w.heap.size + 1 < W0.heap.size; omega)).trans (hf2 4); have HO : Hid (w1.ownsRow W0.heap.size 99 2 (.slice va s.attrs.length vc) s.attrs.length (attrCells s.attrs)) := hown; have HB1 : Hid (Below w.heap.size w w1) := HB0.out.drew.trans (hb.mono (by show w.heap.size <= W0.heap.size; omega)); have hs1 : W0.heap.size <= w1.heap.size := hb.size; clear hown hb q0 q1 q2 q3 hc1 hc2 hf2))
 go_wp2
 refine bodyPost_ret (v := .agg #[.int .i64 s.kind, .string s.name, .slice va s.attrs.length vc, .string s.text, .slice none 0 0]) (by simp [results, Try.results41, go_sem, s0, s1, s2, s3, s4]) rfl ⟨va, vc, rfl, ?_⟩
 have ht : Turn (fun b => b = w.heap.size + 1) w1 (((((w1.setCell ⟨w.heap.size + 1, 0, none⟩ (.int .i64 s.kind)).setCell ⟨w.heap.size + 1, 1, none⟩ (.string s.name)).setCell ⟨w.heap.size + 1, 2, none⟩ (.slice va s.attrs.length vc)).setCell ⟨w.heap.size + 1, 3, none⟩ (.string s.text)).setCell ⟨w.heap.size + 1, 4, none⟩ (.slice none 0 0)) :=
  ((((((Turn.refl (fun b => b = w.heap.size + 1) w1).setCell (A := fun b => b = w.heap.size + 1) (p := ⟨w.heap.size + 1, 0, none⟩) rfl _).setCell (A := fun b => b = w.heap.size + 1) (p := ⟨w.heap.size + 1, 1, none⟩) rfl _).setCell (A := fun b => b = w.heap.size + 1) (p := ⟨w.heap.size + 1, 2, none⟩) rfl _).setCell (A := fun b => b = w.heap.size + 1) (p := ⟨w.heap.size + 1, 3, none⟩) rfl _).setCell (A := fun b => b = w.heap.size + 1) (p := ⟨w.heap.size + 1, 4, none⟩) rfl _)
 have hsz := ht.size
 rw [hs0] at HO
 exact ⟨own_of_block HO.out (fun k hk => ht.block k (own_block_lt HO.out k hk).2 (by have := (own_block_lt HO.out k hk).1; omega)), HB1.out.trans (ht.below (by omega) (fun k hk => by omega))⟩
def PlS (w : World) (n : Nat) (t : T n) (e : Ending) (w' : World) : Prop :=
 ∃ v, e = .returned (.agg v) /\ TreeS w' n (fun b => w.heap.size <= b /\ b < w'.heap.size) v t /\ Below w.heap.size w w'
def FoS (w : World) (n : Nat) (L : List (T n)) (e : Ending) (w' : World) : Prop :=
 ∃ (a : Option Addr) (cap : Nat) (xs : List Value) (R : Nat -> Prop), e = .returned (.slice a L.length cap) /\ w'.ownsRow w.heap.size 36 5 (.slice a L.length cap) L.length xs /\ ForS (TreeS w' n) R xs L /\ (∀ b, R b -> w.heap.size <= b /\ b < w'.heap.size /\ (Value.slice a L.length cap).ownBlock ≠ some b) /\ Below w.heap.size w w'
structure FoSS (w wr : World) (m : Nat) (L : List (T m)) (i : Nat) (la : Option Addr) (lcap : Nat) (xs : List Value) : Prop where
 own : wr.ownsRow w.heap.size 36 5 (.slice la i lcap) i xs
 kids : ForS (TreeS wr m) (fun b => w.heap.size <= b /\ b < wr.heap.size /\ (Value.slice la i lcap).ownBlock ≠ some b) xs (L.take i)
 bel : Below w.heap.size w wr
theorem FoSS.step {w wr w2 w3 : World} {m : Nat} {L : List (T m)} {i : Nat} {la : Option Addr} {lcap : Nat} {xs : List Value} (h : FoSS w wr m L i la lcap xs) {k : T m} (hk : L[i]? = some k)
  {u : Array Value} (hu : TreeS w2 m (fun b => wr.heap.size <= b /\ b < w2.heap.size) u k) (hb : Below wr.heap.size wr w2) {o : Obj} {la' : Option Addr} {lcap' : Nat} (hown : w3.ownsRow w.heap.size 36 5 (.slice la' (i + 1) lcap') (i + 1) (xs ++ u.toList))
  (hg : (w2.alloc o).grownBy w3 (Value.slice la i lcap).ownBlock) (hat : (Value.slice la' (i + 1) lcap').ownBlock = (Value.slice la i lcap).ownBlock \/ (Value.slice la' (i + 1) lcap').ownBlock = some (w2.heap.size + 1)) :
  FoSS w w3 m L (i + 1) la' lcap' (xs ++ u.toList) := by
 have hs := hb.size
 have hs3 : w2.heap.size + 1 <= w3.heap.size := by have := hg.size; simpa using this
 have hbl := h.bel.size
 have hox := own_block_lt h.own
 have far : ∀ b, b < w2.heap.size -> (Value.slice la i lcap).ownBlock ≠ some b -> w3.heap[b]? = w2.heap[b]? := fun b hb1 hb2 =>
  (hg.block b (by simp; omega) (fun e => hb2 e.symm)).trans (Below.heap_alloc _ _ _ hb1)
 have far2 : ∀ b, b < wr.heap.size -> (Value.slice la i lcap).ownBlock ≠ some b -> w3.heap[b]? = wr.heap[b]? := fun b hb1 hb2 => (far b (by omega) hb2).trans (hb.block b hb1)
 have hnew : ∀ b, b < w2.heap.size -> (Value.slice la i lcap).ownBlock ≠ some b -> (Value.slice la' (i + 1) lcap').ownBlock ≠ some b := fun b h1 h2 e => by
  rcases hat with hat | hat
  ·rw [hat] at e; exact h2 e
  ·rw [hat] at e; simp only [Option.some.injEq] at e; omega
 have hnb : ∀ b, b < w.heap.size -> (Value.slice la i lcap).ownBlock ≠ some b := fun b hb e => by have := hox _ e; omega
 have hne : ∀ b, wr.heap.size <= b -> (Value.slice la i lcap).ownBlock ≠ some b := fun b h1 e => by have := hox _ e; omega
 refine ⟨hown, ?_, ?_⟩
 ·rw [take_more hk]
  have h1 := h.kids.to (w' := w3) (R' := fun b => w.heap.size <= b /\ b < wr.heap.size /\ (Value.slice la i lcap).ownBlock ≠ some b) (fun b hb' => far2 b hb'.2.1 hb'.2.2) (fun _ h => h)
  have h2 := hu.to (w' := w3) (R' := fun b => wr.heap.size <= b /\ b < w2.heap.size) (fun b hb' => far b hb'.2 (hne b hb'.1)) (fun _ h => h)
  have h3 := h1.snoc h2 (fun b hb1 hb2 => by omega)
  refine h3.to (fun _ _ => rfl) (fun b hb' => ?_)
  rcases hb' with hb' | hb'
  ·exact ⟨hb'.1, by omega, hnew b (by omega) hb'.2.2⟩
  ·exact ⟨by omega, by omega, hnew b hb'.2 (hne b hb'.1)⟩
 ·exact (h.bel.trans (hb.mono hbl)).trans ⟨hg.os, hg.tape, hg.output, by omega, fun k hk => far k (by omega) (hnb k (by omega))⟩
theorem FoSS.more {w wr w' : World} {m : Nat} {L : List (T m)} {i : Nat} {la : Option Addr} {lcap : Nat} {xs : List Value} (h : FoSS w wr m L i la lcap xs) (hb : Below wr.heap.size wr w') : FoSS w w' m L i la lcap xs :=
 ⟨own_of_block h.own (fun k hk => hb.block k (own_block_lt h.own k hk).2), h.kids.to (fun b hb' => hb.block b hb'.2.1) (fun b hb' => ⟨hb'.1, Nat.lt_of_lt_of_le hb'.2.1 hb.size, hb'.2.2⟩), h.bel.trans (hb.mono h.bel.size)⟩
def slw (s : Sl) (aa : Option Addr) (ac : Nat) (ka : Option Addr) (kc : Nat) : Array Value := #[.int .u32 (s.gen : Int), .bool s.live, .int .i64 s.kind, .string s.name, .slice aa s.attrs.length ac, .string s.text, .int .u64 (s.parent : Int), .slice ka s.kids.length kc]
theorem plains_s (w : World) (R : Nat -> Prop) (db : Nat) (D : Dc) (m : Nat) (l : List Nat) (L : List (T m)) (ra : Option Addr) (rcap : Nat) (hv : View w R db D) (hw : WF D) (hra : HandsAt w R ra l) (hll : l.length <= 4096) (hL : L.length = l.length)
  (hK : ∀ (i x : Nat), l[i]? = some x -> ∃ k s, L[i]? = some k /\ sl D x = some s /\ ∀ W aa ac ka kc, View W R db D -> AttrsR W R aa s.attrs -> HandsAt W R ka s.kids -> Calls Try.prog 26 #[.pointer (some ⟨db, 0, none⟩), .agg (slw s aa ac ka kc)] W (PlS W m k)) :
  Calls Try.prog 18 #[.pointer (some ⟨db, 0, none⟩), .slice ra l.length rcap] w (FoS w m L) := by
 have HV : Hid (View w R db D) := hv
 have HWF : Hid (WF D) := hw
 have HR : Hid (∀ b, R b -> b < w.heap.size) := hv.lt
 have HRA : Hid (HandsAt w R ra l) := hra
 have HK : Hid (∀ (i x : Nat), l[i]? = some x -> ∃ k s, L[i]? = some k /\ sl D x = some s /\ ∀ W aa ac ka kc, View W R db D -> AttrsR W R aa s.attrs -> HandsAt W R ka s.kids -> Calls Try.prog 26 #[.pointer (some ⟨db, 0, none⟩), .agg (slw s aa ac ka kc)] W (PlS W m k)) := hK
 have HL : Hid (L.length = l.length) := hL
 clear hv hra hK hL hw
 have HST : Hid (FoSS w w m L 0 none 0 []) := ⟨own_nil _ _ _ _, by rw [List.take_zero]; exact ForS.nil _ _, Below.refl _ _⟩
 go_enter Try.func18, Try.ntmps18
 go_wp2
 go_loopw [5, 10] (fun q iv wr => ∃ (i : Nat) (la : Option Addr) (lcap : Nat) (xs : List Value), i <= l.length /\ iv = .int .i64 (i : Int) /\ q = .slice la i lcap /\ Hid (FoSS w wr m L i la lcap xs)) (fun _ iv _ => l.length - (intOf iv).toNat)
 case atStart => exact ⟨0, _, _, [], Nat.zero_le _, rfl, rfl, HST⟩
 case round =>
  obtain ⟨j, la, lcap, xs, hj, rfl, rfl, hst⟩ := hrel
  have hbs := hst.out.bel.size
  clear HST
  by_cases hlt : j < l.length
  ·obtain ⟨x, hx⟩ : ∃ x, l[j]? = some x := ⟨_, List.getElem?_eq_getElem hlt⟩
   obtain ⟨k, s, hk, hsx, hcalls⟩ := HK.out j x hx
   obtain ⟨b, o, rfl, hbR, hcx⟩ := HRA.out j x hx
   have hbb := HR.out b hbR
   have hcx' : wr.cell? ⟨b, o + j, none⟩ = some (.int .u64 (x : Int)) := (hst.out.bel.cell (p := ⟨b, _, none⟩) hbb).trans hcx
   have hbr : b < wr.heap.size := by omega
   obtain ⟨hxl, hx0, i, hai, hsi, -⟩ := HWF.out.lt hsx
   obtain ⟨sb, so, scap, -, -, -, -, hh0, -⟩ := (HV.out.below hst.out.bel).slot hsi
   have hcall := find_some wr R db D x i (HV.out.below hst.out.bel) HWF.out.fits hxl hai sb so scap hh0
   have HKK : Hid (L[j]? = some k) := hk
   have HCALLS : Hid (∀ W aa ac ka kc, View W R db D -> AttrsR W R aa s.attrs -> HandsAt W R ka s.kids -> Calls Try.prog 26 #[.pointer (some ⟨db, 0, none⟩), .agg (slw s aa ac ka kc)] W (PlS W m k)) := hcalls
   have HSI : Hid (D.S[i]? = some s) := hsi
   have HH0 : Hid (wr.cell? ⟨db, 0, none⟩ = some (.slice (some ⟨sb, so, none⟩) D.S.length scap)) := hh0
   clear hk hcalls hx hcx hsx hsi hh0 hai
   go_wp2_with fail
   refine hcall.mono ?_
   rintro e w2 ⟨rfl, hb2⟩
   have HB2 : Hid (Below wr.heap.size wr w2) := hb2
   have HV2 : Hid (View w2 R db D) := (HV.out.below hst.out.bel).below hb2
   obtain ⟨sb', so', scap', aa, ac, ka, kc, hh1, -, hsbR, c0, c1, c2, c3, c4, c5, c6, c7, l1, l2, hat, hkt⟩ := HV2.out.slot HSI.out
   have hdl := HR.out db HV.out.docs
   have hsame : w2.cell? ⟨db, 0, none⟩ = some (.slice (some ⟨sb, so, none⟩) D.S.length scap) := (hb2.cell (p := ⟨db, 0, none⟩) (show db < wr.heap.size by omega)).trans HH0.out
   rw [hsame] at hh1
   simp only [Option.some.injEq, Value.slice.injEq, Addr.mk.injEq, and_true, true_and] at hh1
   obtain ⟨⟨rfl, rfl⟩, -⟩ := hh1
   have hcall2 := HCALLS.out w2 aa ac ka kc HV2.out hat hkt
   unfold slw at hcall2
   have hs2 := hb2.size
   have hsb2 := HV2.out.lt sb hsbR
   clear hb2 hcall hsame hat hkt HCALLS hcx'
   go_wp2_with fail
   refine hcall2.mono ?_
   rintro e w3 ⟨u, rfl, htu, hbu⟩
   have hs3 := hbu.size
   obtain ⟨kk', nm', a'', al'', ac'', tx', ka3, kl3, kc3, rfl⟩ := htu.form
   have hst2 := hst.out.more HB2.out
   have HST2 : Hid (FoSS w w2 m L j la lcap xs) := hst2
   have HTU : Hid (TreeS w3 m (fun b => w2.heap.size <= b /\ b < w3.heap.size) #[.int .i64 kk', .string nm', .slice a'' al'' ac'', .string tx', .slice ka3 kl3 kc3] k) := htu
   have HBU : Hid (Below w2.heap.size w2 w3) := hbu
   clear htu hbu hcall2 c0 c1 c2 c3 c4 c5 c6 c7 hst2 hst
   have tok2 : True := trivial
   go_wp2_with (at_builtin; have _t := tok2; refine wpList_app rfl _ _ rfl Try.underlying22 info25 rfl (by decide) w.heap.size (.slice la j lcap) j xs rfl (own_of_block HST2.out.own (fun k hk => (Below.heap_alloc _ _ _ (by have := (own_block_lt HST2.out.own k hk).2; omega)).trans (HBU.out.block k (own_block_lt HST2.out.own k hk).2))) (some ⟨w3.heap.size, 0, none⟩) 1 1 [.int .i64 kk', .string nm', .slice a'' al'' ac'', .string tx', .slice ka3 kl3 kc3] rfl rfl (news_new w3 #[.int .i64 kk', .string nm', .slice a'' al'' ac'', .string tx', .slice ka3 kl3 kc3] 36) (tree_one _ _ _ _ _ _ _ _ _) (by unfold maxLen; omega) (by omega) (by simp; omega) ?_; intro v3 w4 hown3 hg3 _ hat3; clear tok2 _t; obtain ⟨la', lcap', hv3⟩ := own_slice hown3; subst hv3; have HST3 : Hid (FoSS w w4 m L (j + 1) la' lcap' (xs ++ [.int .i64 kk', .string nm', .slice a'' al'' ac'', .string tx', .slice ka3 kl3 kc3])) := HST2.out.step HKK.out HTU.out HBU.out hown3 hg3 (by simpa using hat3); clear hown3 hg3 hat3 HTU HBU HKK HST2)
   go_roundw
   case rel => exact ⟨j + 1, la', lcap', _, by omega, by go_num, rfl, HST3⟩
   case measure => simp [intOf]; omega
  ·have hje : j = l.length := by omega
   subst hje
   have HN := HL
   clear HK hlt
   go_wp2
   go_ret
   have hs9 := hst.out
   have hb9 := hst.out.bel
   rw [<- HN.out] at hs9 ⊢
   exact ⟨_, _, xs, _, rfl, hs9.own, by have := hs9.kids; rwa [List.take_length] at this, fun b hb => hb, hb9⟩
theorem pls_end {w w3 w' : World} {s : Sl} {m W0s X : Nat} {L : List (T m)} {a1 la : Option Addr} {c1 lcap : Nat} {xs : List Value} {Rf : Nat -> Prop} (hX : W0s <= X) (hXl : X + 1 <= w3.heap.size) (hs0 : W0s = w.heap.size + 2) (hal : s.attrs.length <= 32) (hkl : L.length <= 4096)
  (hat : w3.ownsRow W0s 99 2 (.slice a1 s.attrs.length c1) s.attrs.length (attrCells s.attrs)) (hatX : ∀ b, (Value.slice a1 s.attrs.length c1).ownBlock = some b -> b < X)
  (hown : w3.ownsRow (X + 1) 36 5 (.slice la L.length lcap) L.length xs) (hfor : ForS (TreeS w3 m) Rf xs L) (hRf : ∀ b, Rf b -> X + 1 <= b /\ b < w3.heap.size /\ (Value.slice la L.length lcap).ownBlock ≠ some b) (hb : Below w.heap.size w w3) (ht : Turn (fun b => b = w.heap.size + 1 \/ b = X) w3 w') :
  TreeS w' (m + 1) (fun b => w.heap.size <= b /\ b < w'.heap.size) #[.int .i64 s.kind, .string s.name, .slice a1 s.attrs.length c1, .string s.text, .slice la L.length lcap] (mkN s L : Nd (T m)) /\ Below w.heap.size w w' := by
 have hs := ht.size
 have hblk : ∀ b, b < w3.heap.size -> b ≠ w.heap.size + 1 -> b ≠ X -> w'.heap[b]? = w3.heap[b]? := fun b h1 h2 h3 => ht.block b h1 (by omega)
 have hoa := own_block_lt hat
 have hok := own_block_lt hown
 refine ⟨⟨a1, c1, la, lcap, xs, Rf, rfl, hal, hkl, own_base (own_of_block hat (fun k hk => ?_)) (fun k _ => Nat.zero_le _), own_base (own_of_block hown (fun k hk => ?_)) (fun k _ => Nat.zero_le _), hfor.to (fun b hb' => ?_) (fun _ h => h), fun b hb' => ?_, fun b hb' => ?_, fun b hb' => ?_⟩, hb.trans (ht.below (by omega) (fun k hk => by omega))⟩
 ·have h1 := hoa k hk
  have h2 := hatX k hk
  exact hblk k h1.2 (by omega) (by omega)
 ·have h1 := hok k hk
  exact hblk k h1.2 (by omega) (by omega)
 ·have h1 := hRf b hb'
  exact hblk b h1.2.1 (by omega) (by omega)
 ·have h1 := hRf b hb'
  exact ⟨by omega, by omega⟩
 ·have h1 := hoa b hb'
  have h2 := hatX b hb'
  exact ⟨⟨by omega, by omega⟩, fun h => by have := hRf b h; omega⟩
 ·have h1 := hok b hb'
  exact ⟨⟨by omega, by omega⟩, fun h => (hRf b h).2.2 hb', fun h => by have := hatX b h; omega⟩
theorem plain_s (w : World) (R : Nat -> Prop) (db : Nat) (s : Sl) (m : Nat) (L : List (T m)) (aa : Option Addr) (ac : Nat) (ka : Option Addr) (kc : Nat) (hat : AttrsR w R aa s.attrs) (hR : ∀ b, R b -> b < w.heap.size) (hal : s.attrs.length <= 32) (hkl : L.length <= 4096)
  (hK : ∀ W, Below w.heap.size w W -> Calls Try.prog 18 #[.pointer (some ⟨db, 0, none⟩), .slice ka s.kids.length kc] W (FoS W m L)) :
  Calls Try.prog 26 #[.pointer (some ⟨db, 0, none⟩), .agg (slw s aa ac ka kc)] w (PlS w (m + 1) (mkN s L : Nd (T m))) := by
 obtain ⟨W0, hW0⟩ : ∃ W0, W0 = ((w.alloc (.cells #[.int .u32 (s.gen : Int), .bool s.live, .int .i64 s.kind, .string s.name, .slice aa s.attrs.length ac, .string s.text, .int .u64 (s.parent : Int), .slice ka s.kids.length kc] 77)).alloc (.cells #[.int .i64 0, .string ⟨#[]⟩, .slice none 0 0, .string ⟨#[]⟩, .slice none 0 0] 36)) := ⟨_, rfl⟩
 have HB0 : Hid (Below w.heap.size w W0) := by rw [hW0]; exact (below_new' w _).alloc (by simp) _
 have hs0 : W0.heap.size = w.heap.size + 2 := by rw [hW0]; simp
 have HX1 : Hid (IsCells W0 w.heap.size #[.int .u32 (s.gen : Int), .bool s.live, .int .i64 s.kind, .string s.name, .slice aa s.attrs.length ac, .string s.text, .int .u64 (s.parent : Int), .slice ka s.kids.length kc]) := by rw [hW0]; exact (isCells_new w _ 77).alloc _
 have HX2 : Hid (IsCells W0 (w.heap.size + 1) #[.int .i64 0, .string ⟨#[]⟩, .slice none 0 0, .string ⟨#[]⟩, .slice none 0 0]) := by
  show IsCells _ _ _
  rw [hW0]
  have := isCells_new (w.alloc (.cells #[.int .u32 (s.gen : Int), .bool s.live, .int .i64 s.kind, .string s.name, .slice aa s.attrs.length ac, .string s.text, .int .u64 (s.parent : Int), .slice ka s.kids.length kc] 77)) #[.int .i64 0, .string ⟨#[]⟩, .slice none 0 0, .string ⟨#[]⟩, .slice none 0 0] 36
  simpa using this
 have hbare := bare_s W0 R s aa ac ka s.kids.length kc (hat.to (fun _ h => h) (fun b o hb => HB0.out.cell (p := ⟨b, o, none⟩) (hR b hb))) (fun b hb => by have := hR b hb; omega) (by omega)
 have HW0 : Hid (W0 = ((w.alloc (.cells #[.int .u32 (s.gen : Int), .bool s.live, .int .i64 s.kind, .string s.name, .slice aa s.attrs.length ac, .string s.text, .int .u64 (s.parent : Int), .slice ka s.kids.length kc] 77)).alloc (.cells #[.int .i64 0, .string ⟨#[]⟩, .slice none 0 0, .string ⟨#[]⟩, .slice none 0 0] 36))) := hW0
 have HK : Hid (∀ W, Below w.heap.size w W -> Calls Try.prog 18 #[.pointer (some ⟨db, 0, none⟩), .slice ka s.kids.length kc] W (FoS W m L)) := hK
 clear hW0 hat hR hK
 unfold slw
 go_enter Try.func26, Try.ntmps26
 go_wp2_with fail
 rw [<- HW0.out]
 clear HW0
 refine hbare.mono ?_
 rintro e w1 ⟨a1, c1, rfl, hat1, hb1⟩
 have hs1 := hb1.size
 have HB1 : Hid (Below w.heap.size w w1) := HB0.out.trans (hb1.mono (by omega))
 have HX1' : Hid (IsCells w1 w.heap.size #[.int .u32 (s.gen : Int), .bool s.live, .int .i64 s.kind, .string s.name, .slice aa s.attrs.length ac, .string s.text, .int .u64 (s.parent : Int), .slice ka s.kids.length kc]) := HX1.out.of_block (hb1.block _ (by omega))
 have HX2' : Hid (IsCells w1 (w.heap.size + 1) #[.int .i64 0, .string ⟨#[]⟩, .slice none 0 0, .string ⟨#[]⟩, .slice none 0 0]) := HX2.out.of_block (hb1.block _ (by omega))
 have HAT1 : Hid (w1.ownsRow (W0.heap.size + 2) 99 2 (.slice a1 s.attrs.length c1) s.attrs.length (attrCells s.attrs)) := hat1
 have hk7 : w1.cell? ⟨w.heap.size, 7, none⟩ = some (.slice ka s.kids.length kc) := HX1'.out.cell 7
 have hcal := HK.out (w1.alloc (.cells #[.int .i64 s.kind, .string s.name, .slice a1 s.attrs.length c1, .string s.text, .slice none 0 0] 36)) (HB1.out.alloc (by omega) _)
 have hwl : w.heap.size < w1.heap.size := by omega
 unfold tv
 clear hb1 hbare hat1 HX1 HX2
 go_wp2_with fail
 refine hcal.mono ?_
 rintro e w3 ⟨la, lcap, xs3, Rf3, rfl, hown3, hfor3, hRf3, hb3⟩
 have hs3 : w1.heap.size + 1 <= w3.heap.size := by have := hb3.size; simpa using this
 have HBX : Hid (IsCells w3 w1.heap.size #[.int .i64 s.kind, .string s.name, .slice a1 s.attrs.length c1, .string s.text, .slice none 0 0]) := (isCells_new w1 _ 36).of_block (hb3.block _ (by simp))
 have HRS : Hid (IsCells w3 (w.heap.size + 1) #[.int .i64 0, .string ⟨#[]⟩, .slice none 0 0, .string ⟨#[]⟩, .slice none 0 0]) := (HX2'.out.alloc _).of_block (hb3.block _ (by simp; omega))
 have HB3 : Hid (Below w.heap.size w w3) := (HB1.out.alloc (by omega) _).trans (hb3.mono (by simp; omega))
 have HAT3 : Hid (w3.ownsRow W0.heap.size 99 2 (.slice a1 s.attrs.length c1) s.attrs.length (attrCells s.attrs)) := own_base (own_of_block HAT1.out (fun k hk => (hb3.block k (by have := (own_block_lt HAT1.out k hk).2; simp; omega)).trans (Below.heap_alloc _ _ _ (own_block_lt HAT1.out k hk).2))) (fun k hk => by have := (own_block_lt HAT1.out k hk).1; omega)
 have HATX : Hid (∀ b, (Value.slice a1 s.attrs.length c1).ownBlock = some b -> b < w1.heap.size) := fun b hb => (own_block_lt HAT1.out b hb).2
 have HOW3 : Hid (w3.ownsRow (w1.heap.size + 1) 36 5 (.slice la L.length lcap) L.length xs3) := by show World.ownsRow _ _ _ _ _ _ _; have := hown3; simpa using this
 have HFOR : Hid (ForS (TreeS w3 m) Rf3 xs3 L) := hfor3
 have HRF : Hid (∀ b, Rf3 b -> w1.heap.size + 1 <= b /\ b < w3.heap.size /\ (Value.slice la L.length lcap).ownBlock ≠ some b) := fun b hb => by have := hRf3 b hb; simpa using this
 have hbc := HBX.out.cell
 have hbf := HBX.out.frozen
 have hrc := HRS.out.cell
 have hrf := HRS.out.frozen
 have hbl : w1.heap.size < w3.heap.size := by omega
 have hrl : w.heap.size + 1 < w3.heap.size := by omega
 have hne : ¬ w1.heap.size = w.heap.size + 1 := by omega
 have hne' : ¬ w.heap.size + 1 = w1.heap.size := by omega
 clear hb3 hown3 hfor3 hRf3 hcal hk7 HX1' HX2' HAT1
 go_wp2
 refine bodyPost_ret (v := .agg #[.int .i64 s.kind, .string s.name, .slice a1 s.attrs.length c1, .string s.text, .slice la L.length lcap]) (by simp [results, Try.results26, go_sem, hrc]) rfl ⟨_, rfl, ?_⟩
 exact pls_end (w' := _) (X := w1.heap.size) (by omega) (by omega) hs0 hal hkl HAT3.out HATX.out HOW3.out HFOR.out HRF.out HB3.out ((((((((Turn.refl (fun b => b = w.heap.size + 1 \/ b = w1.heap.size) w3).setCell (A := fun b => b = w.heap.size + 1 \/ b = w1.heap.size) (p := ⟨w1.heap.size, 4, none⟩) (.inr rfl) _).setCell (A := fun b => b = w.heap.size + 1 \/ b = w1.heap.size) (p := ⟨w.heap.size + 1, 0, none⟩) (.inl rfl) _).setCell (A := fun b => b = w.heap.size + 1 \/ b = w1.heap.size) (p := ⟨w.heap.size + 1, 1, none⟩) (.inl rfl) _).setCell (A := fun b => b = w.heap.size + 1 \/ b = w1.heap.size) (p := ⟨w.heap.size + 1, 2, none⟩) (.inl rfl) _).setCell (A := fun b => b = w.heap.size + 1 \/ b = w1.heap.size) (p := ⟨w.heap.size + 1, 3, none⟩) (.inl rfl) _).setCell (A := fun b => b = w.heap.size + 1 \/ b = w1.heap.size) (p := ⟨w.heap.size + 1, 4, none⟩) (.inl rfl) _))
theorem plain_sany (D : Dc) (R : Nat -> Prop) (db : Nat) (lv : Nat -> Nat) (hw : WF D) (hl : Lev D lv) : ∀ (m : Nat) (w : World) (h : Nat) (s : Sl) (aa : Option Addr) (ac : Nat) (ka : Option Addr) (kc : Nat), View w R db D -> sl D h = some s -> AttrsR w R aa s.attrs -> HandsAt w R ka s.kids -> 63 - lv h <= m ->
  Calls Try.prog 26 #[.pointer (some ⟨db, 0, none⟩), .agg (slw s aa ac ka kc)] w (PlS w (m + 1) (subT D m h))
 | 0, w, h, s, aa, ac, ka, kc, hv, hs, hat, hkt, hm => by
  have hnil : lst D h = [] := by
   cases he : lst D h with
   | nil => rfl
   | cons c r =>
    obtain ⟨s', h1, _, h2⟩ := hw.kid hl hs (c := c) (by rw [he]; simp)
    have := (hl c s' h1).1
    omega
  have hkn : s.kids = [] := by rw [<- lst_of hs, hnil]
  unfold subT
  rw [slD_of hs]
  refine plain_s w R db s 0 (kidT D 0 h) aa ac ka kc hat hv.lt (hw.alen hs) (by simp [kidT]) (fun W hb => ?_)
  have := plains_s W R db D 0 [] [] ka kc (hv.below hb) hw (fun i x hx => by simp at hx) (by simp) rfl (fun i x hx => by simp at hx)
  rw [hkn]
  exact this
 | m + 1, w, h, s, aa, ac, ka, kc, hv, hs, hat, hkt, hm => by
  have hll := lst_len hw (.inr ⟨s, hs⟩ : h = 0 \/ ∃ s, sl D h = some s)
  have hkk : lst D h = s.kids := lst_of hs
  unfold subT
  rw [slD_of hs]
  refine plain_s w R db s (m + 1) (kidT D (m + 1) h) aa ac ka kc hat hv.lt (hw.alen hs) (by rw [kidT_succ, List.length_map]; exact hll) (fun W hb => ?_)
  rw [kidT_succ, hkk]
  refine plains_s W R db D (m + 1) s.kids (s.kids.map (subT D m)) ka kc (hv.below hb) hw (hkt.to (fun _ h => h) (fun b o hb' => hb.cell (p := ⟨b, o, none⟩) (hv.lt b hb'))) (by rw [<- hkk]; exact hll) (List.length_map ..) (fun i x hx => ?_)
  obtain ⟨s', h1, _, h2⟩ := hw.kid hl hs (c := x) (by rw [hkk]; exact List.mem_of_getElem? hx)
  exact ⟨subT D m x, s', by rw [List.getElem?_map, hx]; rfl, h1, fun W' aa' ac' ka' kc' hW' ha' hk' => plain_sany D R db lv hw hl m W' x s' aa' ac' ka' kc' hW' h1 ha' hk' (by omega)⟩
theorem pforest_s (w : World) (R : Nat -> Prop) (db : Nat) (D : Dc) (hv : View w R db D) (hw : WF D) :
  Calls Try.prog 10 #[.pointer (some ⟨db, 0, none⟩)] w (FoS w 64 (D.roots.map (subT D 63))) := by
 obtain ⟨lv, hl⟩ := hw.lev
 have hll := (roots_len hw).1
 obtain ⟨ra, rcap, hz1, hrc, hra⟩ := hv.roots
 have hcal := plains_s w R db D 64 D.roots (D.roots.map (subT D 63)) ra rcap hv hw hra hll (List.length_map ..) (fun i x hx => by
  obtain ⟨s, h1, _, h2⟩ := hw.root hl (List.mem_of_getElem? hx)
  exact ⟨subT D 63 x, s, by rw [List.getElem?_map, hx]; rfl, h1, fun W aa ac ka kc hW ha hk => plain_sany D R db lv hw hl 63 W x s aa ac ka kc hW h1 ha hk (by omega)⟩)
 generalize D.roots.map (subT D 63) = L at hcal ⊢
 clear hv hw hl hra
 go_enter Try.func10, Try.ntmps10
 go_wp2_with fail
 refine hcal.mono ?_
 rintro e w1 ⟨a, c, xs, R9, rfl, h1, h2, h3, h4⟩
 go_wp2
 go_ret
 exact ⟨a, c, xs, R9, rfl, h1, h2, h3, h4⟩
def CpyAll (n : Nat) : Prop := ∀ (w : World) (lo : Nat) (ka : Option Addr) (L : List (T n)) (cap : Nat), KidsAt w lo w.heap.size n ka L -> L.length <= maxK ->
 Calls Try.prog 5 #[.slice ka L.length cap] w fun e w' => ∃ a' cap', e = .returned (.slice a' L.length cap') /\ KidsAt w' w.heap.size w'.heap.size n a' L /\ L.length <= cap' /\ Below w.heap.size w w'
theorem KidsAt.mono {w : World} {lo hi lo' hi' n : Nat} {ka : Option Addr} {L : List (T n)} (h : KidsAt w lo hi n ka L) (h1 : lo' <= lo) (h2 : hi <= hi') : KidsAt w lo' hi' n ka L := fun i k hk => by
 obtain ⟨b, o, u, g1, g2, g3, g4, g5, g6⟩ := h i k hk
 exact ⟨b, o, u, g1, by omega, by omega, g4, g5, g6.mono h1 h2⟩
theorem tree_copied {wr w3 w4 w5 w6 : World} {m : Nat} {k : T (m + 1)} {a1 a5 : Option Addr} {cap1 cap5 : Nat} {v2 v4 : Value} (hown : w3.ownsRow (wr.heap.size + 1) 99 2 (.slice a1 k.attrs.length cap1) k.attrs.length (attrCells k.attrs)) (hw4 : w4 = w3.setCell ⟨wr.heap.size, 2, none⟩ v2)
  (hk : KidsAt w5 w4.heap.size w5.heap.size m a5 k.kids) (hb : Below w4.heap.size w4 w5) (hw6 : w6 = w5.setCell ⟨wr.heap.size, 4, none⟩ v4) (hs : wr.heap.size + 1 <= w3.heap.size) (hal : k.attrs.length <= maxA) (hkl : k.kids.length <= maxK) (hc5 : k.kids.length <= cap5) :
  TreeAt w6 wr.heap.size w6.heap.size (m + 1) #[.int .i64 k.kind, .string k.name, .slice a1 k.attrs.length cap1, .string k.text, .slice a5 k.kids.length cap5] k := by
 have hs4 : w4.heap.size = w3.heap.size := by rw [hw4]; simp [World.setCell]
 have hs6 : w6.heap.size = w5.heap.size := by rw [hw6]; simp [World.setCell]
 have hs5 := hb.size
 have f4 : ∀ b o, b ≠ wr.heap.size -> w4.cell? ⟨b, o, none⟩ = w3.cell? ⟨b, o, none⟩ := fun b o h => by rw [hw4]; exact World.cell?_of_block (w := w3) (a := ⟨b, o, none⟩) (Below.heap_setCell _ _ _ _ h)
 have f6 : ∀ b o, b ≠ wr.heap.size -> w6.cell? ⟨b, o, none⟩ = w5.cell? ⟨b, o, none⟩ := fun b o h => by rw [hw6]; exact World.cell?_of_block (w := w5) (a := ⟨b, o, none⟩) (Below.heap_setCell _ _ _ _ h)
 obtain ⟨h1, h2, h3⟩ := attrs_row hown rfl
 refine ⟨a1, cap1, a5, cap5, rfl, hal, hkl, h3, hc5, (h1.to (R' := fun b => wr.heap.size <= b /\ b < w6.heap.size) (fun b hb' => ⟨by omega, by omega⟩) (fun b o hb' => ?_)).toAt, ?_⟩
 ·rw [f6 b o (by omega), hb.cell (p := ⟨b, o, none⟩) (by show b < _; omega), f4 b o (by omega)]
 ·exact (KidsAt.of_cells hk (fun b o hb1 hb2 => f6 b o (by omega))).mono (by omega) (by omega)
theorem cpy_n (n : Nat) (ih : ∀ m, n = m + 1 -> CpyAll m) : CpyAll n := by
 intro w lo ka L cap hk hl
 have HK : Hid (KidsAt w lo w.heap.size n ka L) := hk
 have HIH : Hid (∀ m, n = m + 1 -> CpyAll m) := ih
 unfold maxK at hl
 clear hk ih
 have tok1 : True := trivial
 obtain ⟨iT, hiT0, hiT1, hiT2, hiT3⟩ := info25.parts
 go_enter Try.func5, Try.ntmps5
 go_wp2_with (at_make; have _t := tok1; refine wpList_make_own _ rfl _ _ 22 rfl w.heap.size 36 iT _ 5 Try.underlying22 hiT0 hiT1 hiT2 .i64 .i64 _ (L.length + 2) rfl rfl (by first | rfl | simp | omega) (by rw [hiT3]; omega) (by unfold maxLen; omega) (Nat.le_refl _) ?_; intro w1 hown1 hg1; have HST : Hid (OutSt w w1 n ([] : List (T n)) 0 (some ⟨w.heap.size, 0, none⟩) (L.length + 2) []) := OutSt.made hown1 ((Below.refl _ w).grown hg1 (Nat.le_refl _) (fun k hk => by cases hk)); clear hown1 hg1 tok1 _t hiT0 hiT1 hiT2 hiT3)
 go_loopw [3, 4] (fun lv v wr => ∃ (i : Nat) (la : Option Addr) (lcap : Nat) (xs : List Value), i <= L.length /\ v = .int .i64 (i : Int) /\ lv = .slice la i lcap /\ Hid (OutSt w wr n (L.take i) i la lcap xs)) (fun _ v _ => L.length - (intOf v).toNat)
 case atStart => exact ⟨0, _, _, _, Nat.zero_le _, rfl, rfl, HST⟩
 case round =>
  obtain ⟨i, la, lcap, xs, hi, rfl, rfl, hst⟩ := hrel
  clear HST
  have hbs := hst.out.bel.size
  by_cases hlt : i < L.length
  ·have t1 : (i : Int) < (L.length : Int) := by omega
   have t0 : (0 : Int) <= (i : Int) := by omega
   obtain ⟨k, hk⟩ : ∃ k, L[i]? = some k := ⟨_, List.getElem?_eq_getElem hlt⟩
   obtain ⟨b, o, kk, nm, aa, al, ac, tx, kA, kl, kc, rfl, -, hbl, c0, c1, c2, c3, c4, hT⟩ := (HK.out.after hst.out.bel).get hk
   obtain ⟨m, rfl⟩ : ∃ m, n = m + 1 := by
    cases n with
    | zero => exact hT.elim
    | succ m => exact ⟨m, rfl⟩
   obtain ⟨aa', ac', kA', kc', he, hal, hkl, hac, hkc, hat, hkd⟩ := id hT
   simp only [tv, Array.mk.injEq, List.cons.injEq, Value.int.injEq, Value.string.injEq, Value.slice.injEq, true_and, and_true] at he
   obtain ⟨rfl, rfl, ⟨rfl, rfl, rfl⟩, rfl, rfl, rfl, rfl⟩ := he
   unfold maxA at hal
   have hkl2 : k.kids.length <= 1599289640401 := hkl
   obtain ⟨wA, hwA⟩ : ∃ wA, wA = wr.alloc (.cells #[.int .i64 k.kind, .string k.name, .slice aa k.attrs.length ac, .string k.text, .slice kA k.kids.length kc] 36) := ⟨_, rfl⟩
   have hsA : wA.heap.size = wr.heap.size + 1 := by rw [hwA]; simp
   have hbA : Below wr.heap.size wr wA := by rw [hwA]; exact (Below.refl _ _).alloc (Nat.le_refl _) _
   have hbox : IsCells wA wr.heap.size #[.int .i64 k.kind, .string k.name, .slice aa k.attrs.length ac, .string k.text, .slice kA k.kids.length kc] := by rw [hwA]; exact isCells_new wr _ 36
   have HWA : Hid (wA = wr.alloc (.cells #[.int .i64 k.kind, .string k.name, .slice aa k.attrs.length ac, .string k.text, .slice kA k.kids.length kc] 36)) := hwA
   have HSA : Hid (wA.heap.size = wr.heap.size + 1) := hsA
   have HBA : Hid (Below wr.heap.size wr wA) := hbA
   have HBX : Hid (IsCells wA wr.heap.size #[.int .i64 k.kind, .string k.name, .slice aa k.attrs.length ac, .string k.text, .slice kA k.kids.length kc]) := hbox
   have HAT : Hid (AttrsAt wr lo wr.heap.size aa k.attrs) := hat
   have HKD : Hid (KidsAt wr lo wr.heap.size m kA k.kids) := hkd
   have HTK : Hid (L.take (i + 1) = L.take i ++ [k]) := take_more hk
   have d0 : wA.cell? ⟨wr.heap.size, 0, none⟩ = some (.int .i64 k.kind) := hbox.cell 0
   have d1 : wA.cell? ⟨wr.heap.size, 1, none⟩ = some (.string k.name) := hbox.cell 1
   have d2 : wA.cell? ⟨wr.heap.size, 2, none⟩ = some (.slice aa k.attrs.length ac) := hbox.cell 2
   have d3 : wA.cell? ⟨wr.heap.size, 3, none⟩ = some (.string k.text) := hbox.cell 3
   have d4 : wA.cell? ⟨wr.heap.size, 4, none⟩ = some (.slice kA k.kids.length kc) := hbox.cell 4
   have df := hbox.frozen
   clear hwA hsA hbA hbox hat hkd hk hT
   go_upto_region 6 with fail
   rw [<- HWA.out]
   clear HWA c0 c1 c2 c3 c4
   have HN : Hid (∀ W, Below wr.heap.size wr W -> ∀ j u, (attrCells k.attrs)[j]? = some u -> ∃ ad, aa = some ad /\ W.cell? (ad.add j) = some u) := fun W hW => (HAT.out.of_cells (fun b o _ hb => hW.cell (p := ⟨b, o, none⟩) hb)).news
   have hal1 : (k.attrs.length : Int) <= 4398046511104 := by omega
   have hwr : IntKind.i64.wrap ((k.attrs.length : Int) + 1) = (k.attrs.length : Int) + 1 := by rw [IntKind.wrap_i64]; omega
   obtain ⟨iA, hiA0, hiA1, hiA2, hiA3⟩ := info40.parts
   obtain ⟨w2, hmk, hown2, hg2⟩ := run_make_own (P := Try.prog) wA.drew (wr.heap.size + 1) 34 99 iA _ 2 Try.underlying34 hiA0 hiA1 hiA2 .i64 .i64 (k.attrs.length + 1) (by rw [hiA3]; omega) (by unfold maxLen; omega) (by have := HSA.out; simp; omega)
   have hdz : wA.drew.heap.size = wr.heap.size + 1 := HSA.out
   rw [show ((k.attrs.length + 1 : Nat) : Int) = (k.attrs.length : Int) + 1 from by omega, hdz] at hmk
   rw [hdz] at hown2
   have HO2 : Hid (w2.ownsRow (wr.heap.size + 1) 99 2 (.slice (some ⟨wr.heap.size + 1, 0, none⟩) 0 (k.attrs.length + 1)) 0 []) := hown2
   have HB2 : Hid (Below wr.heap.size wr w2) := (HBA.out.drew).grown hg2 (by omega) (fun k hk => by cases hk)
   have HX2 : Hid (IsCells w2 wr.heap.size #[.int .i64 k.kind, .string k.name, .slice aa k.attrs.length ac, .string k.text, .slice kA k.kids.length kc]) := HBX.out.of_block (hg2.block _ (by omega) (fun e => by cases e))
   have hc2 : w2.cell? ⟨wr.heap.size, 2, none⟩ = some (.slice aa k.attrs.length ac) := HX2.out.cell 2
   have HS2 : Hid (wr.heap.size + 1 <= w2.heap.size) := by have := hg2.size; rw [hdz] at this; exact this
   clear hown2 hg2 hiA0 hiA1 hiA2 hiA3 hdz
   have tok3 : True := trivial
   clear d0 d1 d3 d4
   go_region_law (first
     | (have _t := tok3; refine step_app (by rfl) _ _ (by rfl) Try.underlying34 info40 rfl (by decide) (wr.heap.size + 1) _ 0 [] (by rfl) HO2.out aa k.attrs.length ac (attrCells k.attrs) (by rfl) (attrCells_length _) (HN.out w2 HB2.out) (attrCells_one _) (by unfold maxLen; omega) (by omega) HS2.out ?_; intro v3 w3 hown3 hg3 _ hat3; obtain ⟨va3, vc3, hv3⟩ := own_slice hown3; subst hv3; rw [Nat.zero_add, List.nil_append] at hown3; rw [Nat.zero_add]; have HO3 : Hid (w3.ownsRow (wr.heap.size + 1) 99 2 (.slice va3 k.attrs.length vc3) k.attrs.length (attrCells k.attrs)) := hown3; have HB3 : Hid (Below wr.heap.size wr w3) := HB2.out.grown hg3 (by have := HS2.out; omega) (fun j hj => by have := (own_block_lt HO2.out j hj).1; omega); have HX3 : Hid (IsCells w3 wr.heap.size #[.int .i64 k.kind, .string k.name, .slice aa k.attrs.length ac, .string k.text, .slice kA k.kids.length kc]) := HX2.out.of_block (hg3.block _ (by have := HS2.out; omega) (fun e => by have := (own_block_lt HO2.out _ e.symm).1; omega)); have HS3 : Hid (wr.heap.size + 1 <= w3.heap.size) := Nat.le_trans HS2.out hg3.size; have hc3 : w3.cell? ⟨wr.heap.size, 2, none⟩ = some (.slice aa k.attrs.length ac) := HX3.out.cell 2; have hf3 : w3.frozen? ⟨wr.heap.size, 2, none⟩ = false := HX3.out.frozen 2; clear hown3 hg3 hat3 tok3 _t))
   all_goals
    obtain ⟨w4, hw4⟩ : ∃ w4, w4 = w3.setCell ⟨wr.heap.size, 2, none⟩ (.slice va3 k.attrs.length vc3) := ⟨_, rfl⟩
    have HB4 : Hid (Below wr.heap.size wr w4) := by rw [hw4]; exact HB3.out.setCell (p := ⟨wr.heap.size, 2, none⟩) (Nat.le_refl _) _
    have hx4 : IsCells w4 wr.heap.size #[.int .i64 k.kind, .string k.name, .slice va3 k.attrs.length vc3, .string k.text, .slice kA k.kids.length kc] := by rw [hw4]; exact HX3.out.set 2 _
    have hs4 : wr.heap.size < w4.heap.size := hx4.lt
    have e4 : w4.cell? ⟨wr.heap.size, 4, none⟩ = some (.slice kA k.kids.length kc) := hx4.cell 4
    have hcall := HIH.out m rfl w4 lo kA k.kids kc (HKD.out.after HB4.out) hkl
    have HW4 : Hid (w4 = w3.setCell ⟨wr.heap.size, 2, none⟩ (.slice va3 k.attrs.length vc3)) := hw4
    have HX4 : Hid (IsCells w4 wr.heap.size #[.int .i64 k.kind, .string k.name, .slice va3 k.attrs.length vc3, .string k.text, .slice kA k.kids.length kc]) := hx4
    rw [<- hw4]
    clear hw4 hx4 hmk hc2 hc3 hf3 d2 df
    go_wp2_with fail
    refine hcall.mono ?_
    rintro e w5 ⟨a5, cap5, rfl, hk5, hc5, hb5⟩
    have hx5 : IsCells w5 wr.heap.size #[.int .i64 k.kind, .string k.name, .slice va3 k.attrs.length vc3, .string k.text, .slice kA k.kids.length kc] := HX4.out.of_block (hb5.block _ hs4)
    have g4 : w5.cell? ⟨wr.heap.size, 4, none⟩ = some (.slice kA k.kids.length kc) := hx5.cell 4
    have gf : w5.frozen? ⟨wr.heap.size, 4, none⟩ = false := hx5.frozen 4
    obtain ⟨w6, hw6⟩ : ∃ w6, w6 = w5.setCell ⟨wr.heap.size, 4, none⟩ (.slice a5 k.kids.length cap5) := ⟨_, rfl⟩
    have hx6 : IsCells w6 wr.heap.size #[.int .i64 k.kind, .string k.name, .slice va3 k.attrs.length vc3, .string k.text, .slice a5 k.kids.length cap5] := by rw [hw6]; exact hx5.set 4 _
    have HB6 : Hid (Below wr.heap.size wr w6) := by rw [hw6]; exact (HB4.out.trans (hb5.mono (Nat.le_of_lt hs4))).setCell (p := ⟨wr.heap.size, 4, none⟩) (Nat.le_refl _) _
    have HTR : Hid (TreeAt w6 wr.heap.size w6.heap.size (m + 1) #[.int .i64 k.kind, .string k.name, .slice va3 k.attrs.length vc3, .string k.text, .slice a5 k.kids.length cap5] k) := tree_copied HO3.out HW4.out hk5 hb5 hw6 HS3.out hal hkl hc5
    have q0 : w6.cell? ⟨wr.heap.size, 0, none⟩ = some (.int .i64 k.kind) := hx6.cell 0
    have q1 : w6.cell? ⟨wr.heap.size, 1, none⟩ = some (.string k.name) := hx6.cell 1
    have q2 : w6.cell? ⟨wr.heap.size, 2, none⟩ = some (.slice va3 k.attrs.length vc3) := hx6.cell 2
    have q3 : w6.cell? ⟨wr.heap.size, 3, none⟩ = some (.string k.text) := hx6.cell 3
    have q4 : w6.cell? ⟨wr.heap.size, 4, none⟩ = some (.slice a5 k.kids.length cap5) := hx6.cell 4
    have HW6 : Hid (w6 = w5.setCell ⟨wr.heap.size, 4, none⟩ (.slice a5 k.kids.length cap5)) := hw6
    have hs6 := HB6.out.size
    clear hw6 hx6 hx5 hk5 hc5 hb5 hcall e4 HX4 HW4 HB4
    go_upto_region 8 with fail
    rw [<- HW6.out]
    clear HW6 g4 gf
    have tok4 : True := trivial
    go_wp2_with (at_builtin; have _t := tok4; refine wpList_app rfl _ _ rfl Try.underlying22 info25 rfl (by decide) w.heap.size (.slice la i lcap) i xs rfl (own_of_block hst.out.own (fun j hj => (Below.heap_alloc _ _ _ (by have := (own_block_lt hst.out.own j hj).2; omega)).trans (HB6.out.block j (own_block_lt hst.out.own j hj).2))) (some ⟨w6.heap.size, 0, none⟩) 1 1 [.int .i64 k.kind, .string k.name, .slice va3 k.attrs.length vc3, .string k.text, .slice a5 k.kids.length cap5] rfl rfl (news_new w6 #[.int .i64 k.kind, .string k.name, .slice va3 k.attrs.length vc3, .string k.text, .slice a5 k.kids.length cap5] 36) (tree_one _ _ _ _ _ _ _ _ _) (by unfold maxLen; omega) (by omega) (by simp; omega) ?_; intro v7 w7 hown7 hg7 _ hat7; clear tok4 _t; obtain ⟨la', lcap', hv7⟩ := own_slice hown7; subst hv7; have HST7 : Hid (OutSt w w7 (m + 1) (L.take i ++ [k]) (i + 1) la' lcap' (xs ++ [.int .i64 k.kind, .string k.name, .slice va3 k.attrs.length vc3, .string k.text, .slice a5 k.kids.length cap5])) := hst.out.step HTR.out HB6.out hown7 hg7 (by simpa using hat7); clear hown7 hg7 hat7 HTR HB6 hst)
    go_roundw
    case rel => exact ⟨i + 1, la', lcap', _, by omega, by go_num, rfl, by rw [HTK.out]; exact HST7⟩
    case measure => simp [intOf]; omega
  ·have hie : i = L.length := by omega
   subst hie
   clear hlt
   have hd := hst.out.done
   rw [List.take_length] at hd
   go_wp2
   go_ret
   exact ⟨la, lcap, rfl, hd.1, hd.2, hst.out.bel⟩
theorem cpy_any : ∀ n, CpyAll n
 | 0 => cpy_n 0 (fun m h => by cases h)
 | n + 1 => cpy_n (n + 1) (fun m h => by cases h; exact cpy_any n)
end Go.Proofs.Ytmapmkogjhinmaa
