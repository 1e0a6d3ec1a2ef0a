/- What is wrong with a node itself, and its children: the program's answers and the document's. -/
import Derived.Test.YtmapmkogjhinmaaA02
import Derived.Maps.AppendAt
import Derived.Deep.AppendSrc
namespace Go.Proofs.Ytmapmkogjhinmaa
open Go.RowKit
set_option maxRecDepth 100000
set_option maxHeartbeats 1000000
set_option linter.unusedVariables false
set_option linter.unusedSimpArgs false
theorem AttrsAt.after {w w' : World} {lo : Nat} {a : Option Addr} {l : List (ByteArray × ByteArray)} (h : AttrsAt w lo w.heap.size a l) (hb : Below w.heap.size w w') : AttrsAt w' lo w'.heap.size a l :=
 (h.of_cells (fun b o _ hb' => hb.cell (p := ⟨b, o, none⟩) hb')).mono (Nat.le_refl _) hb.size
theorem below_new' (w : World) (o : Obj) : Below w.heap.size w (w.alloc o) := (Below.refl _ _).alloc (Nat.le_refl _) o
theorem rname_b (w : World) (s : ByteArray) :
  Calls Try.prog 56 #[.string s] w fun e w' => e = .returned (.bool (nameL s.data.toList)) /\ Below w.heap.size w w' :=
 (rname_any w s).mono fun e w' ⟨he, hw⟩ => ⟨he, by rw [hw]; exact Below.refl _ _⟩
theorem node_any {α : Type} (w : World) (lo : Nat) (t : Nd α) (a : Option Addr) (ac : Nat) (ka : Option Addr) (kl kc : Nat) (h : AttrsAt w lo w.heap.size a t.attrs) :
  Calls Try.prog 46 #[.agg #[.int .i64 t.kind, .string t.name, .slice a t.attrs.length ac, .string t.text, .slice ka kl kc]] w fun e w' => e = .returned (.int .i64 (ownE t)) /\ Below w.heap.size w w' := by
 have hbn := below_new' w (.cells #[.int .i64 t.kind, .string t.name, .slice a t.attrs.length ac, .string t.text, .slice ka kl kc] 36)
 have hnw := fun W => name_any W t.name
 have htw := fun W => text_any W t.text
 have haw : ∀ W, Below (w.alloc (.cells #[.int .i64 t.kind, .string t.name, .slice a t.attrs.length ac, .string t.text, .slice ka kl kc] 36)).heap.size (w.alloc (.cells #[.int .i64 t.kind, .string t.name, .slice a t.attrs.length ac, .string t.text, .slice ka kl kc] 36)) W -> Calls Try.prog 60 #[.slice a t.attrs.length ac] W fun e w' => e = .returned (.int .i64 (attrsE t.attrs)) /\ Below W.heap.size W w' :=
  fun W hb => attrs_any W lo a t.attrs ac ((h.after hbn).after hb)
 have HBN : Hid (Below w.heap.size w (w.alloc (.cells #[.int .i64 t.kind, .string t.name, .slice a t.attrs.length ac, .string t.text, .slice ka kl kc] 36))) := hbn
 have HAW : Hid (∀ W, Below (w.alloc (.cells #[.int .i64 t.kind, .string t.name, .slice a t.attrs.length ac, .string t.text, .slice ka kl kc] 36)).heap.size (w.alloc (.cells #[.int .i64 t.kind, .string t.name, .slice a t.attrs.length ac, .string t.text, .slice ka kl kc] 36)) W -> Calls Try.prog 60 #[.slice a t.attrs.length ac] W fun e w' => e = .returned (.int .i64 (attrsE t.attrs)) /\ Below W.heap.size W w') := haw
 clear h hbn haw
 by_cases h1 : t.kind = 1
 ·have hb1 : (t.kind == 1) = true := beq_iff_eq.2 h1
  have hE : ownE t = if nameL t.name.data.toList then attrsE t.attrs else 6 := by rw [ownE, if_pos h1]
  rw [hE]
  have H1 : Hid (t.kind = 1) := h1
  clear h1 hE htw
  cases hnm : nameL t.name.data.toList
  ·rw [hnm] at hnw
   clear hnm
   go_enter Try.func46, Try.ntmps46
   go_wp2_with fail
   refine (hnw _).mono ?_
   rintro e w1 ⟨rfl, hb1⟩
   go_wp2
   go_ret
   exact ⟨rfl, HBN.out.trans (hb1.mono (by simp))⟩
  ·rw [hnm] at hnw
   clear hnm
   go_enter Try.func46, Try.ntmps46
   go_wp2_with fail
   refine (hnw _).mono ?_
   rintro e w1 ⟨rfl, hb1⟩
   obtain ⟨hc, hf⟩ := bcell hb1
   have HB1 : Hid (Below (w.alloc (.cells #[.int .i64 t.kind, .string t.name, .slice a t.attrs.length ac, .string t.text, .slice ka kl kc] 36)).heap.size (w.alloc (.cells #[.int .i64 t.kind, .string t.name, .slice a t.attrs.length ac, .string t.text, .slice ka kl kc] 36)) w1) := hb1
   have hs1 := hb1.size
   simp at hs1
   clear hb1
   go_wp2_with fail
   refine (HAW.out _ HB1.out).mono ?_
   rintro e w2 ⟨rfl, hb2⟩
   go_wp2
   go_ret
   exact ⟨rfl, (HBN.out.trans (HB1.out.mono (by simp))).trans (hb2.mono (by omega))⟩
 ·by_cases h2 : t.kind = 2
  ·have hb1 : (t.kind == 1) = false := beq_eq_false_iff_ne.2 h1
   have hb2 : (t.kind == 2) = true := beq_iff_eq.2 h2
   have hE : ownE t = (tans t.text.data.toList).2 := by rw [ownE, if_neg h1, if_pos h2]
   rw [hE]
   have H1 : Hid (t.kind = 2) := h2
   clear h1 h2 hE hnw
   go_enter Try.func46, Try.ntmps46
   go_wp2_with fail
   refine (htw _).mono ?_
   rintro e w1 ⟨rfl, hb1⟩
   go_wp2
   go_ret
   exact ⟨rfl, HBN.out.trans (hb1.mono (by simp))⟩
  ·have hb1 : (t.kind == 1) = false := beq_eq_false_iff_ne.2 h1
   have hb2 : (t.kind == 2) = false := beq_eq_false_iff_ne.2 h2
   have hE : ownE t = 1 := by rw [ownE, if_neg h1, if_neg h2]
   rw [hE]
   have H1 : Hid (¬ t.kind = 1) := h1
   have H2 : Hid (¬ t.kind = 2) := h2
   clear h1 h2 hE hnw htw
   go_enter Try.func46, Try.ntmps46
   go_wp2
   go_ret
   exact ⟨rfl, HBN.out⟩
theorem rnode_any {α : Type} (w : World) (lo : Nat) (t : Nd α) (a : Option Addr) (ac : Nat) (ka : Option Addr) (kl kc : Nat) (h : AttrsAt w lo w.heap.size a t.attrs) :
  Calls Try.prog 44 #[.agg #[.int .i64 t.kind, .string t.name, .slice a t.attrs.length ac, .string t.text, .slice ka kl kc]] w fun e w' => e = .returned (.int .i64 (ownE t)) /\ Below w.heap.size w w' := by
 have hbn := below_new' w (.cells #[.int .i64 t.kind, .string t.name, .slice a t.attrs.length ac, .string t.text, .slice ka kl kc] 36)
 have hnw := fun W => rname_b W t.name
 have htw := fun W => rtext_any W t.text
 have haw : ∀ W, Below (w.alloc (.cells #[.int .i64 t.kind, .string t.name, .slice a t.attrs.length ac, .string t.text, .slice ka kl kc] 36)).heap.size (w.alloc (.cells #[.int .i64 t.kind, .string t.name, .slice a t.attrs.length ac, .string t.text, .slice ka kl kc] 36)) W -> Calls Try.prog 57 #[.slice a t.attrs.length ac] W fun e w' => e = .returned (.int .i64 (attrsE t.attrs)) /\ Below W.heap.size W w' :=
  fun W hb => rattrs_any W lo a t.attrs ac ((h.after hbn).after hb)
 have HBN : Hid (Below w.heap.size w (w.alloc (.cells #[.int .i64 t.kind, .string t.name, .slice a t.attrs.length ac, .string t.text, .slice ka kl kc] 36))) := hbn
 have HAW : Hid (∀ W, Below (w.alloc (.cells #[.int .i64 t.kind, .string t.name, .slice a t.attrs.length ac, .string t.text, .slice ka kl kc] 36)).heap.size (w.alloc (.cells #[.int .i64 t.kind, .string t.name, .slice a t.attrs.length ac, .string t.text, .slice ka kl kc] 36)) W -> Calls Try.prog 57 #[.slice a t.attrs.length ac] W fun e w' => e = .returned (.int .i64 (attrsE t.attrs)) /\ Below W.heap.size W w') := haw
 clear h hbn haw
 by_cases h1 : t.kind = 1
 ·have hb1 : (t.kind == 1) = true := beq_iff_eq.2 h1
  have hE : ownE t = if nameL t.name.data.toList then attrsE t.attrs else 6 := by rw [ownE, if_pos h1]
  rw [hE]
  have H1 : Hid (t.kind = 1) := h1
  clear h1 hE htw
  cases hnm : nameL t.name.data.toList
  ·rw [hnm] at hnw
   clear hnm
   go_enter Try.func44, Try.ntmps44
   go_wp2_with fail
   refine (hnw _).mono ?_
   rintro e w1 ⟨rfl, hb1⟩
   go_wp2
   go_ret
   exact ⟨rfl, HBN.out.trans (hb1.mono (by simp))⟩
  ·rw [hnm] at hnw
   clear hnm
   go_enter Try.func44, Try.ntmps44
   go_wp2_with fail
   refine (hnw _).mono ?_
   rintro e w1 ⟨rfl, hb1⟩
   obtain ⟨hc, hf⟩ := bcell hb1
   have HB1 : Hid (Below (w.alloc (.cells #[.int .i64 t.kind, .string t.name, .slice a t.attrs.length ac, .string t.text, .slice ka kl kc] 36)).heap.size (w.alloc (.cells #[.int .i64 t.kind, .string t.name, .slice a t.attrs.length ac, .string t.text, .slice ka kl kc] 36)) w1) := hb1
   have hs1 := hb1.size
   simp at hs1
   clear hb1
   go_wp2_with fail
   refine (HAW.out _ HB1.out).mono ?_
   rintro e w2 ⟨rfl, hb2⟩
   go_wp2
   go_ret
   exact ⟨rfl, (HBN.out.trans (HB1.out.mono (by simp))).trans (hb2.mono (by omega))⟩
 ·by_cases h2 : t.kind = 2
  ·have hb1 : (t.kind == 1) = false := beq_eq_false_iff_ne.2 h1
   have hb2 : (t.kind == 2) = true := beq_iff_eq.2 h2
   have hE : ownE t = (tans t.text.data.toList).2 := by rw [ownE, if_neg h1, if_pos h2]
   rw [hE]
   have H1 : Hid (t.kind = 2) := h2
   clear h1 h2 hE hnw
   go_enter Try.func44, Try.ntmps44
   go_wp2_with fail
   refine (htw _).mono ?_
   rintro e w1 ⟨rfl, hb1⟩
   go_wp2
   go_ret
   exact ⟨rfl, HBN.out.trans (hb1.mono (by simp))⟩
  ·have hb1 : (t.kind == 1) = false := beq_eq_false_iff_ne.2 h1
   have hb2 : (t.kind == 2) = false := beq_eq_false_iff_ne.2 h2
   have hE : ownE t = 1 := by rw [ownE, if_neg h1, if_neg h2]
   rw [hE]
   have H1 : Hid (¬ t.kind = 1) := h1
   have H2 : Hid (¬ t.kind = 2) := h2
   clear h1 h2 hE hnw htw
   go_enter Try.func44, Try.ntmps44
   go_wp2
   go_ret
   exact ⟨rfl, HBN.out⟩
theorem kidsOf_any (w : World) (k : Int) (nm : ByteArray) (a : Option Addr) (al ac : Nat) (tx : ByteArray) (ka : Option Addr) (kl kc : Nat) :
  Calls Try.prog 47 #[.agg #[.int .i64 k, .string nm, .slice a al ac, .string tx, .slice ka kl kc]] w fun e w' => e = .returned (if k = 2 then .slice none 0 0 else .slice ka kl kc) /\ Below w.heap.size w w' := by
 by_cases h : k = 2
 ·have hb : (k == 2) = true := beq_iff_eq.2 h
  rw [if_pos h]
  clear h
  go_enter Try.func47, Try.ntmps47
  go_wp2
  go_ret
  exact ⟨rfl, below_new' w _⟩
 ·have hb : (k == 2) = false := beq_eq_false_iff_ne.2 h
  rw [if_neg h]
  clear h
  go_enter Try.func47, Try.ntmps47
  go_wp2
  go_ret
  exact ⟨rfl, below_new' w _⟩
theorem rkids_any (w : World) (k : Int) (nm : ByteArray) (a : Option Addr) (al ac : Nat) (tx : ByteArray) (ka : Option Addr) (kl kc : Nat) :
  Calls Try.prog 45 #[.agg #[.int .i64 k, .string nm, .slice a al ac, .string tx, .slice ka kl kc]] w fun e w' => e = .returned (if k = 1 then .slice ka kl kc else .slice none 0 0) /\ Below w.heap.size w w' := by
 by_cases h : k = 1
 ·have hb : (k == 1) = true := beq_iff_eq.2 h
  rw [if_pos h]
  clear h
  go_enter Try.func45, Try.ntmps45
  go_wp2
  go_ret
  exact ⟨rfl, below_new' w _⟩
 ·have hb : (k == 1) = false := beq_eq_false_iff_ne.2 h
  rw [if_neg h]
  clear h
  go_enter Try.func45, Try.ntmps45
  go_wp2
  go_ret
  exact ⟨rfl, below_new' w _⟩
def KidsAt (w : World) (lo hi n : Nat) (ka : Option Addr) (L : List (T n)) : Prop :=
 ∀ i k, L[i]? = some k -> ∃ (b o : Nat) (u : Array Value), ka = some ⟨b, o, none⟩ /\ lo <= b /\ b < hi /\ u.size = 5 /\ (∀ j, j < 5 -> w.cell? ⟨b, o + i * 5 + j, none⟩ = u[j]?) /\ TreeAt w lo hi n u k
theorem TreeAt.form {w : World} {lo hi : Nat} : ∀ {n : Nat} {v : Array Value} {t : T n}, TreeAt w lo hi n v t -> ∃ k nm a al ac tx ka kl kc, v = #[.int .i64 k, .string nm, .slice a al ac, .string tx, .slice ka kl kc]
 | 0, _, _, h => h.elim
 | n + 1, v, t, h => by
  obtain ⟨a, ac, ka, kc, h1, _⟩ := h
  exact ⟨_, _, _, _, _, _, _, _, _, h1⟩
theorem KidsAt.of_cells {w w' : World} {lo hi n : Nat} {ka : Option Addr} {L : List (T n)} (h : KidsAt w lo hi n ka L) (hc : ∀ b o, lo <= b -> b < hi -> w'.cell? ⟨b, o, none⟩ = w.cell? ⟨b, o, none⟩) : KidsAt w' lo hi n ka L := by
 intro i k hk
 obtain ⟨b, o, u, h1, h2, h3, h4, h5, h6⟩ := h i k hk
 exact ⟨b, o, u, h1, h2, h3, h4, fun j hj => (hc _ _ h2 h3).trans (h5 j hj), h6.of_cells hc⟩
theorem KidsAt.turn {w w' : World} {lo hi n : Nat} {ka : Option Addr} {L : List (T n)} {A : Nat -> Prop} (h : KidsAt w lo hi n ka L) (ht : Turn A w w') (hs : hi <= w.heap.size) (hA : ∀ k, lo <= k -> k < hi -> ¬ A k) : KidsAt w' lo hi n ka L :=
 h.of_cells (fun b o hb1 hb2 => World.cell?_of_block (w := w) (a := ⟨b, o, none⟩) (ht.block b (by omega) (hA b hb1 hb2)))
theorem KidsAt.get {w : World} {lo hi n : Nat} {ka : Option Addr} {L : List (T n)} (h : KidsAt w lo hi n ka L) {i : Nat} {k : T n} (hk : L[i]? = some k) :
  ∃ b o kk nm a al ac tx ka' kl kc, ka = some ⟨b, o, none⟩ /\ lo <= b /\ b < hi /\ w.cell? ⟨b, o + i * 5, none⟩ = some (.int .i64 kk) /\ w.cell? ⟨b, o + i * 5 + 1, none⟩ = some (.string nm) /\ w.cell? ⟨b, o + i * 5 + 2, none⟩ = some (.slice a al ac) /\
   w.cell? ⟨b, o + i * 5 + 3, none⟩ = some (.string tx) /\ w.cell? ⟨b, o + i * 5 + 4, none⟩ = some (.slice ka' kl kc) /\ TreeAt w lo hi n #[.int .i64 kk, .string nm, .slice a al ac, .string tx, .slice ka' kl kc] k := by
 obtain ⟨b, o, u, h1, h2, h3, h4, h5, h6⟩ := h i k hk
 obtain ⟨kk, nm, a, al, ac, tx, ka', kl, kc, rfl⟩ := h6.form
 exact ⟨b, o, kk, nm, a, al, ac, tx, ka', kl, kc, h1, h2, h3, h5 0 (by omega), h5 1 (by omega), h5 2 (by omega), h5 3 (by omega), h5 4 (by omega), h6⟩
theorem chkL_at {α : Type} {f : α -> Int -> Int × Int} {L : List α} {i : Nat} {k : α} {a : Int} (h : L[i]? = some k) : chkL f (L.drop i) a = if (f k a).2 = 0 then chkL f (L.drop (i + 1)) (f k a).1 else f k a := by
 have hlt := (List.getElem?_eq_some_iff.1 h).1
 have e : L.drop i = k :: L.drop (i + 1) := by
  rw [List.drop_eq_getElem_cons hlt, (List.getElem?_eq_some_iff.1 h).2]
 rw [e, chkL]
theorem chkL_ge {α : Type} {f : α -> Int -> Int × Int} (hf : ∀ k a, a <= (f k a).1) : ∀ (L : List α) (a : Int), a <= (chkL f L a).1
 | [], a => by simp [chkL]
 | k :: r, a => by
  have h1 := hf k a
  have h2 := chkL_ge hf r (f k a).1
  rw [chkL]
  split <;> omega
theorem chk_ge : ∀ (n : Nat) (t : T n) (d a : Int), a <= (chk n t d a).1
 | 0, t, _, a => by simp [chk]
 | n + 1, t, d, a => by
  rw [chk]
  split
  ·simp
  ·split
   ·have := chkL_ge (f := fun k x => chk n k (d + 1) x) (fun k a => chk_ge n k (d + 1) a) (kidsT t) (a + 1)
    omega
   ·simp
theorem chk_le : ∀ (n : Nat) (t : T n) (d a : Int), a <= 4096 -> (chk n t d a).1 <= 4096
 | 0, t, _, a, h => by simpa [chk] using h
 | n + 1, t, d, a, h => by
  rw [chk]
  split
  ·exact h
  ·rename_i h1
   split
   ·have : ∀ (L : List (T n)) (a : Int), a <= 4096 -> (chkL (fun k x => chk n k (d + 1) x) L a).1 <= 4096 := by
     intro L
     induction L with
     | nil => intro a h; exact h
     | cons k r ih =>
      intro a h
      rw [chkL]
      split
      ·exact ih _ (chk_le n k (d + 1) a h)
      ·exact chk_le n k (d + 1) a h
    exact this _ _ (by omega)
   ·exact h
theorem TreeAt.kids {w : World} {lo hi n : Nat} {t : T (n + 1)} {a : Option Addr} {al ac : Nat} {ka : Option Addr} {kl kc : Nat} (h : TreeAt w lo hi (n + 1) #[.int .i64 t.kind, .string t.name, .slice a al ac, .string t.text, .slice ka kl kc] t) (ho : ownE t = 0) :
  ∃ ka' kc', (if t.kind = 2 then Value.slice none 0 0 else .slice ka kl kc) = .slice ka' (kidsT t).length kc' /\ (if t.kind = 1 then Value.slice ka kl kc else .slice none 0 0) = .slice ka' (kidsT t).length kc' /\ KidsAt w lo hi n ka' (kidsT t) /\ (kidsT t).length <= maxK := by
 obtain ⟨a', ac', ka', kc', h1, h2, h3, h4, h5, h6, h7⟩ := h
 simp only [tv, Array.mk.injEq, List.cons.injEq, Value.slice.injEq, and_true, true_and] at h1
 obtain ⟨_, rfl, rfl, rfl⟩ := h1
 by_cases k1 : t.kind = 1
 ·have k2 : ¬ t.kind = 2 := by omega
  have e : kidsT t = t.kids := if_pos k1
  rw [e, if_neg k2, if_pos k1]
  exact ⟨_, _, rfl, rfl, h7, h3⟩
 ·have k2 : t.kind = 2 := by
   unfold ownE at ho
   rw [if_neg k1] at ho
   by_cases k2 : t.kind = 2
   ·exact k2
   ·rw [if_neg k2] at ho; omega
  have e : kidsT t = [] := if_neg k1
  rw [e, if_pos k2, if_neg k1]
  exact ⟨none, 0, rfl, rfl, fun i k hk => by simp at hk, Nat.zero_le _⟩
theorem turn_start {w : World} {pb : Nat} {ah : Value} (h : IsCells w pb #[ah]) (o : Obj) : Turn (fun b => b = pb) w (w.alloc o) /\ IsCells (w.alloc o) pb #[ah] :=
 ⟨(Turn.refl _ _).alloc o, h.alloc o⟩
def ChkP (w : World) (n : Nat) (t : T n) (pb : Nat) (d ah : Int) (e : Ending) (w' : World) : Prop :=
 e = .returned (.int .i64 (chk n t d ah).2) /\ Turn (fun b => b = pb) w w' /\ ∃ x : Int, IsCells w' pb #[.int .i64 x] /\ ((chk n t d ah).2 = 0 -> x = (chk n t d ah).1)
def ChkAll (n : Nat) : Prop := ∀ (w : World) (v : Array Value) (t : T n) (lo hi pb : Nat) (d ah : Int), TreeAt w lo hi n v t -> hi <= pb -> IsCells w pb #[.int .i64 ah] -> 0 <= ah -> ah <= 4096 -> 0 <= d -> d <= 65 ->
  Calls Try.prog 30 #[.agg v, .int .i64 d, .pointer (some ⟨pb, 0, none⟩)] w (ChkP w n t pb d ah)
theorem turn_put {w : World} {pb : Nat} (v : Value) (o : Obj) : Turn (fun b => b = pb) w ((w.setCell ⟨pb, 0, none⟩ v).alloc o) :=
 (Turn.setCell (A := fun b => b = pb) (Turn.refl _ w) (p := ⟨pb, 0, none⟩) rfl v).alloc o
theorem check_any : ∀ (n : Nat), ChkAll n
 | 0 => fun _ _ _ _ _ _ _ _ h => h.elim
 | n + 1 => by
  intro w v t lo hi pb d ah h hhi hpb h0 h1 hd0 hd1
  have ih := check_any n
  have hpl := hpb.lt
  have hcell : w.cell? ⟨pb, 0, none⟩ = some (.int .i64 ah) := by rw [hpb.cell]; rfl
  have hfz : w.frozen? ⟨pb, 0, none⟩ = false := hpb.frozen 0
  obtain ⟨a, ac, ka, kc, rfl, hal, hkl, hac, hkc, hat, hkt⟩ := id h
  unfold tv at h ⊢
  by_cases hdd : 64 < d
  ·have hR : chk (n + 1) t d ah = (ah, 2) := by rw [chk, if_pos (.inl hdd)]
   have HR : Hid (chk (n + 1) t d ah = (ah, 2)) := hR
   have HPB : Hid (IsCells w pb #[.int .i64 ah]) := hpb
   clear hR hal hkl hac hkc hat hkt h hpb ih
   go_enter Try.func30, Try.ntmps30
   go_wp2
   go_ret
   exact ⟨by rw [HR.out]; rfl, (turn_start HPB.out _).1, ah, (turn_start HPB.out _).2, fun h => by rw [HR.out] at h; cases h⟩
  ·by_cases haa : 4096 <= ah
   ·have hR : chk (n + 1) t d ah = (ah, 2) := by rw [chk, if_pos (.inr haa)]
    have HR : Hid (chk (n + 1) t d ah = (ah, 2)) := hR
    have HPB : Hid (IsCells w pb #[.int .i64 ah]) := hpb
    clear hR hal hkl hac hkc hat hkt h hpb ih
    have hd : decide (64 < d) = false := by simpa using hdd
    go_enter Try.func30, Try.ntmps30
    go_wp2
    go_ret
    exact ⟨by rw [HR.out]; rfl, (turn_start HPB.out _).1, ah, (turn_start HPB.out _).2, fun h => by rw [HR.out] at h; cases h⟩
   ·have hR : chk (n + 1) t d ah = if ownE t = 0 then chkL (fun k x => chk n k (d + 1) x) (kidsT t) (ah + 1) else (ah, ownE t) := by
     rw [chk, if_neg (by omega)]
    have hd : decide (64 < d) = false := by simpa using hdd
    have ha : decide (4096 <= ah) = false := by simpa using haa
    have hsz : hi <= w.heap.size := by omega
    have HT0 : Hid (Turn (fun b => b = pb) w ((w.setCell ⟨pb, 0, none⟩ (.int .i64 (ah + 1))).alloc (.cells #[.int .i64 t.kind, .string t.name, .slice a t.attrs.length ac, .string t.text, .slice ka t.kids.length kc] 36))) :=
     turn_put _ _
    have HI0 : Hid (IsCells ((w.setCell ⟨pb, 0, none⟩ (.int .i64 (ah + 1))).alloc (.cells #[.int .i64 t.kind, .string t.name, .slice a t.attrs.length ac, .string t.text, .slice ka t.kids.length kc] 36)) pb #[.int .i64 (ah + 1)]) :=
     (hpb.set 0 _).alloc _
    have HAT : Hid (AttrsAt w lo hi a t.attrs) := hat
    have HTR : Hid (TreeAt w lo hi (n + 1) #[.int .i64 t.kind, .string t.name, .slice a t.attrs.length ac, .string t.text, .slice ka t.kids.length kc] t) := h
    have HR : Hid (chk (n + 1) t d ah = if ownE t = 0 then chkL (fun k x => chk n k (d + 1) x) (kidsT t) (ah + 1) else (ah, ownE t)) := hR
    clear hR hal hkl hac hkc hat hkt h hpb
    go_enter Try.func30, Try.ntmps30
    go_wp2_with fail
    refine (node_any _ lo t a ac ka _ kc ?_).mono ?_
    ·exact (HAT.out.of_cells (fun b o hb1 hb2 => World.cell?_of_block (w := w) (a := ⟨b, o, none⟩) (HT0.out.block b (by omega) (by omega)))).mono (Nat.le_refl _) (Nat.le_trans hsz HT0.out.size)
    rintro e w1 ⟨rfl, hb1⟩
    have HT1 : Hid (Turn (fun b => b = pb) w w1) := HT0.out.then hb1 HT0.out.size
    have HI1 : Hid (IsCells w1 pb #[.int .i64 (ah + 1)]) := HI0.out.of_block (hb1.block pb HI0.out.lt)
    have hc1 : ∀ o, w1.cell? ⟨w.heap.size, o, none⟩ = _ := fun o => hb1.cell (p := ⟨w.heap.size, o, none⟩) (by simp)
    clear hb1
    by_cases ho : ownE t = 0
    ·obtain ⟨ka', kc', hk1, _, hkt, hkm⟩ := HTR.out.kids ho
     rw [ho]
     have hR := HR.out
     rw [if_pos ho] at hR
     have HRR : Hid (chk (n + 1) t d ah = chkL (fun k x => chk n k (d + 1) x) (kidsT t) (ah + 1)) := hR
     have hko := kidsOf_any w1 t.kind t.name a t.attrs.length ac t.text ka t.kids.length kc
     rw [hk1] at hko
     unfold maxK at hkm
     have HKT : Hid (KidsAt w lo hi n ka' (kidsT t)) := hkt
     clear HR hR HTR HAT hk1 ho hkt HT0 HI0
     generalize kidsT t = L at *
     go_wp2_with fail
     refine hko.mono ?_
     rintro e w2 ⟨rfl, hb2⟩
     have HT2 : Hid (Turn (fun b => b = pb) w w2) := HT1.out.then hb2 HT1.out.size
     have HI2 : Hid (IsCells w2 pb #[.int .i64 (ah + 1)]) := HI1.out.of_block (hb2.block pb HI1.out.lt)
     clear hb2 hc1 HT1 HI1 hko
     go_wp2
     go_loopw [32] (fun v wr => ∃ (i : Nat) (x : Int), i <= L.length /\ v = .int .i64 (i : Int) /\ 0 <= x /\ x <= 4096 /\ Hid (chkL (fun k x => chk n k (d + 1) x) (L.drop i) x = chk (n + 1) t d ah) /\ Hid (IsCells wr pb #[.int .i64 x]) /\ Hid (Turn (fun b => b = pb) w wr)) (fun v _ => L.length - (intOf v).toNat)
     case atStart => exact ⟨0, ah + 1, by omega, rfl, by omega, by omega, HRR.out.symm, HI2, HT2⟩
     case round =>
      obtain ⟨i, x, hi', rfl, hx0, hx1, hgo, hiw, htw⟩ := hrel
      have hws := htw.out.size
      by_cases hlt : i < L.length
      ·obtain ⟨k, hk⟩ : ∃ k, L[i]? = some k := ⟨_, List.getElem?_eq_getElem hlt⟩
       have hkt' := HKT.out.turn htw.out hsz (fun k h1 h2 => by omega)
       obtain ⟨b, o, kk, nm, a', al', ac', tx, ka2, kl2, kc2, rfl, hb1, hb2, c0, c1, c2, c3, c4, htr⟩ := hkt'.get hk
       have hbr : b < wr.heap.size := by omega
       have hstep := chkL_at (f := fun k x => chk n k (d + 1) x) (a := x) hk
       rw [hgo.out] at hstep
       have hge := chk_ge n k (d + 1) x
       have hle := chk_le n k (d + 1) x hx1
       have HST : Hid (chk (n + 1) t d ah = if (chk n k (d + 1) x).2 = 0 then chkL (fun k x => chk n k (d + 1) x) (L.drop (i + 1)) (chk n k (d + 1) x).1 else chk n k (d + 1) x) := hstep
       have HTR : Hid (TreeAt wr lo hi n #[.int .i64 kk, .string nm, .slice a' al' ac', .string tx, .slice ka2 kl2 kc2] k) := htr
       clear hstep hgo HKT hkt' hk htr HRR HT2 HI2
       go_wp2_with fail
       refine (ih _ _ k lo hi pb (d + 1) x (HTR.out.turn (A := fun _ => False) ((Turn.refl _ _).alloc _) (by omega) (fun _ _ _ h => h)) hhi (hiw.out.alloc _) hx0 hx1 (by omega) (by omega)).mono ?_
       rintro e w3 ⟨rfl, ht3, y, hy, hxy⟩
       have HT3 : Hid (Turn (fun b => b = pb) w w3) := htw.out.trans (((Turn.refl _ wr).alloc _).trans ht3)
       have HY : Hid (IsCells w3 pb #[.int .i64 y]) := hy
       have HXY : Hid ((chk n k (d + 1) x).2 = 0 -> y = (chk n k (d + 1) x).1) := hxy
       clear ht3 hy hxy htw hiw HTR c0 c1 c2 c3 c4
       by_cases he : (chk n k (d + 1) x).2 = 0
       ·have hyy := HXY.out he
        have hS := HST.out
        rw [if_pos he] at hS
        have HS : Hid (chk (n + 1) t d ah = chkL (fun k x => chk n k (d + 1) x) (L.drop (i + 1)) y) := by rw [hyy]; exact hS
        have hy0 : 0 <= y /\ y <= 4096 := by omega
        rw [he]
        clear hyy hS HST HXY he
        go_wp2
        go_roundw
        case rel => exact ⟨i + 1, y, by omega, by go_num, hy0.1, hy0.2, HS.out.symm, HY, HT3⟩
        case measure => simp [intOf]; omega
       ·have hbn : ((chk n k (d + 1) x).2 == 0) = false := beq_eq_false_iff_ne.2 he
        have hS := HST.out
        rw [if_neg he] at hS
        have HS : Hid (chk (n + 1) t d ah = chk n k (d + 1) x) := hS
        have HE : Hid (¬ (chk n k (d + 1) x).2 = 0) := he
        clear hS HST HXY he hge hle
        generalize hz : (chk n k (d + 1) x).2 = z at *
        have HZ : Hid ((chk n k (d + 1) x).2 = z) := hz
        clear hz
        go_wp2
        go_ret
        exact ⟨by rw [HS.out, HZ.out]; rfl, HT3.out, y, HY.out, fun h => by rw [HS.out, HZ.out] at h; exact (HE.out h).elim⟩
      ·have hfin : chk (n + 1) t d ah = (x, 0) := by
        rw [<- hgo.out, List.drop_eq_nil_of_le (by omega)]
        rfl
       have HF : Hid (chk (n + 1) t d ah = (x, 0)) := hfin
       clear hfin hgo HKT HRR HT2 HI2
       go_wp2
       go_ret
       exact ⟨by rw [HF.out]; rfl, htw.out, x, hiw.out, fun _ => by rw [HF.out]⟩
    ·have hbn : (ownE t == 0) = false := beq_eq_false_iff_ne.2 ho
     have hR := HR.out
     rw [if_neg ho] at hR
     have HRR : Hid (chk (n + 1) t d ah = (ah, ownE t)) := hR
     have HO : Hid (¬ ownE t = 0) := ho
     clear HR hR HTR HAT ho HT0 HI0 ih
     generalize ownE t = x at *
     go_wp2
     go_ret
     exact ⟨by rw [HRR.out]; rfl, HT1.out, ah + 1, HI1.out, fun h => by rw [HRR.out] at h; exact (HO.out h).elim⟩
def RchkP (w : World) (n : Nat) (t : T n) (d ah : Int) (e : Ending) (w' : World) : Prop :=
 e = .returned (.tuple #[.int .i64 (chk n t d ah).1, .int .i64 (chk n t d ah).2]) /\ Below w.heap.size w w'
def RchkAll (n : Nat) : Prop := ∀ (w : World) (v : Array Value) (t : T n) (lo hi : Nat) (d ah : Int), TreeAt w lo hi n v t -> hi <= w.heap.size -> 0 <= ah -> ah <= 4096 -> 0 <= d -> d <= 65 ->
  Calls Try.prog 28 #[.agg v, .int .i64 d, .int .i64 ah] w (RchkP w n t d ah)
theorem KidsAt.below {w w' : World} {lo hi n : Nat} {ka : Option Addr} {L : List (T n)} (h : KidsAt w lo hi n ka L) {B : Nat} (hb : Below B w w') (hs : hi <= B) : KidsAt w' lo hi n ka L :=
 h.of_cells (fun b o _ hb2 => hb.cell (p := ⟨b, o, none⟩) (show b < B by omega))
theorem AttrsAt.below {w w' : World} {lo hi : Nat} {a : Option Addr} {l : List (ByteArray × ByteArray)} (h : AttrsAt w lo hi a l) {B : Nat} (hb : Below B w w') (hs : hi <= B) : AttrsAt w' lo hi a l :=
 h.of_cells (fun b o _ hb2 => hb.cell (p := ⟨b, o, none⟩) (show b < B by omega))
theorem rcheck_any : ∀ (n : Nat), RchkAll n
 | 0 => fun _ _ _ _ _ _ _ h => h.elim
 | n + 1 => by
  intro w v t lo hi d ah h hsz h0 h1 hd0 hd1
  have ih := rcheck_any n
  obtain ⟨a, ac, ka, kc, rfl, hal, hkl, hac, hkc, hat, hkt⟩ := id h
  unfold tv at h ⊢
  have hbn := below_new' w (.cells #[.int .i64 t.kind, .string t.name, .slice a t.attrs.length ac, .string t.text, .slice ka t.kids.length kc] 36)
  have HBN : Hid (Below w.heap.size w (w.alloc (.cells #[.int .i64 t.kind, .string t.name, .slice a t.attrs.length ac, .string t.text, .slice ka t.kids.length kc] 36))) := hbn
  clear hbn
  by_cases hdd : 64 < d
  ·have hR : chk (n + 1) t d ah = (ah, 2) := by rw [chk, if_pos (.inl hdd)]
   have HR : Hid (chk (n + 1) t d ah = (ah, 2)) := hR
   clear hR hal hkl hac hkc hat hkt h ih
   go_enter Try.func28, Try.ntmps28
   go_wp2
   go_ret2
   exact ⟨by rw [HR.out]; rfl, HBN.out⟩
  ·have hd : decide (64 < d) = false := by simpa using hdd
   by_cases haa : 4096 <= ah
   ·have hR : chk (n + 1) t d ah = (ah, 2) := by rw [chk, if_pos (.inr haa)]
    have HR : Hid (chk (n + 1) t d ah = (ah, 2)) := hR
    clear hR hal hkl hac hkc hat hkt h ih
    go_enter Try.func28, Try.ntmps28
    go_wp2
    go_ret2
    exact ⟨by rw [HR.out]; rfl, HBN.out⟩
   ·have hR : chk (n + 1) t d ah = if ownE t = 0 then chkL (fun k x => chk n k (d + 1) x) (kidsT t) (ah + 1) else (ah, ownE t) := by
     rw [chk, if_neg (by omega)]
    have ha : decide (4096 <= ah) = false := by simpa using haa
    have HAT : Hid (AttrsAt w lo hi a t.attrs) := hat
    have HTR : Hid (TreeAt w lo hi (n + 1) #[.int .i64 t.kind, .string t.name, .slice a t.attrs.length ac, .string t.text, .slice ka t.kids.length kc] t) := h
    have HR : Hid (chk (n + 1) t d ah = if ownE t = 0 then chkL (fun k x => chk n k (d + 1) x) (kidsT t) (ah + 1) else (ah, ownE t)) := hR
    clear hR hal hkl hac hkc hat hkt h
    go_enter Try.func28, Try.ntmps28
    go_wp2_with fail
    refine (rnode_any _ lo t a ac ka _ kc ?_).mono ?_
    ·exact (HAT.out.below HBN.out hsz).mono (Nat.le_refl _) (by simp; omega)
    rintro e w1 ⟨rfl, hb1⟩
    have HB1 : Hid (Below w.heap.size w w1) := HBN.out.trans (hb1.mono (by simp))
    have hc1 : ∀ o, w1.cell? ⟨w.heap.size, o, none⟩ = _ := fun o => hb1.cell (p := ⟨w.heap.size, o, none⟩) (by simp)
    clear hb1
    by_cases ho : ownE t = 0
    ·obtain ⟨ka', kc', _, hk1, hkt, hkm⟩ := HTR.out.kids ho
     rw [ho]
     have hR := HR.out
     rw [if_pos ho] at hR
     have HRR : Hid (chk (n + 1) t d ah = chkL (fun k x => chk n k (d + 1) x) (kidsT t) (ah + 1)) := hR
     have hko := rkids_any w1 t.kind t.name a t.attrs.length ac t.text ka t.kids.length kc
     rw [hk1] at hko
     unfold maxK at hkm
     have HKT : Hid (KidsAt w lo hi n ka' (kidsT t)) := hkt
     clear HR hR HTR HAT hk1 ho hkt
     generalize kidsT t = L at *
     go_wp2_with fail
     refine hko.mono ?_
     rintro e w2 ⟨rfl, hb2⟩
     have HB2 : Hid (Below w.heap.size w w2) := HB1.out.trans (hb2.mono HB1.out.size)
     clear hb2 hc1 HB1 hko
     go_wp2
     go_loopw [2, 10, 11] (fun q v _ wr => ∃ (i : Nat) (x : Int), i <= L.length /\ v = .int .i64 (i : Int) /\ q = .int .i64 x /\ 0 <= x /\ x <= 4096 /\ Hid (chkL (fun k x => chk n k (d + 1) x) (L.drop i) x = chk (n + 1) t d ah) /\ Hid (Below w.heap.size w wr)) (fun _ v _ _ => L.length - (intOf v).toNat)
     case atStart => exact ⟨0, ah + 1, by omega, rfl, rfl, by omega, by omega, HRR.out.symm, HB2⟩
     case round =>
      obtain ⟨i, x, hi', rfl, rfl, hx0, hx1, hgo, hbw⟩ := hrel
      have hws := hbw.out.size
      by_cases hlt : i < L.length
      ·obtain ⟨k, hk⟩ : ∃ k, L[i]? = some k := ⟨_, List.getElem?_eq_getElem hlt⟩
       have hkt' := HKT.out.below hbw.out hsz
       obtain ⟨b, o, kk, nm, a', al', ac', tx, ka2, kl2, kc2, rfl, hb1, hb2, c0, c1, c2, c3, c4, htr⟩ := hkt'.get hk
       have hbr : b < wr.heap.size := by omega
       have hstep := chkL_at (f := fun k x => chk n k (d + 1) x) (a := x) hk
       rw [hgo.out] at hstep
       have hge := chk_ge n k (d + 1) x
       have hle := chk_le n k (d + 1) x hx1
       have HST : Hid (chk (n + 1) t d ah = if (chk n k (d + 1) x).2 = 0 then chkL (fun k x => chk n k (d + 1) x) (L.drop (i + 1)) (chk n k (d + 1) x).1 else chk n k (d + 1) x) := hstep
       have HTR : Hid (TreeAt wr lo hi n #[.int .i64 kk, .string nm, .slice a' al' ac', .string tx, .slice ka2 kl2 kc2] k) := htr
       clear hstep hgo HKT hkt' hk htr HRR HB2
       go_wp2_with fail
       refine (ih _ _ k lo hi (d + 1) x HTR.out (by omega) hx0 hx1 (by omega) (by omega)).mono ?_
       rintro e w3 ⟨rfl, hb3⟩
       have HB3 : Hid (Below w.heap.size w w3) := hbw.out.trans (hb3.mono hws)
       clear hb3 hbw HTR c0 c1 c2 c3 c4
       by_cases he : (chk n k (d + 1) x).2 = 0
       ·have hS := HST.out
        rw [if_pos he] at hS
        have HS : Hid (chk (n + 1) t d ah = chkL (fun k x => chk n k (d + 1) x) (L.drop (i + 1)) (chk n k (d + 1) x).1) := hS
        rw [he]
        clear hS HST he
        generalize (chk n k (d + 1) x).1 = y at *
        go_wp2
        go_roundw
        case rel => exact ⟨i + 1, y, by omega, by go_num, rfl, by omega, hle, HS.out.symm, HB3⟩
        case measure => simp [intOf]; omega
       ·have hbn : ((chk n k (d + 1) x).2 == 0) = false := beq_eq_false_iff_ne.2 he
        have hS := HST.out
        rw [if_neg he] at hS
        have HS : Hid (chk (n + 1) t d ah = chk n k (d + 1) x) := hS
        have HE : Hid (¬ (chk n k (d + 1) x).2 = 0) := he
        clear hS HST he hge hle
        generalize hz : (chk n k (d + 1) x).2 = z at *
        generalize hy : (chk n k (d + 1) x).1 = y at *
        have HZ : Hid (chk n k (d + 1) x = (y, z)) := by rw [<- hy, <- hz]; rfl
        clear hz hy
        go_wp2
        go_ret2
        exact ⟨by rw [HS.out, HZ.out]; rfl, HB3.out⟩
      ·have hfin : chk (n + 1) t d ah = (x, 0) := by
        rw [<- hgo.out, List.drop_eq_nil_of_le (by omega)]
        rfl
       have HF : Hid (chk (n + 1) t d ah = (x, 0)) := hfin
       clear hfin hgo HKT HRR HB2
       go_wp2
       go_ret2
       exact ⟨by rw [HF.out]; rfl, hbw.out⟩
    ·have hbn : (ownE t == 0) = false := beq_eq_false_iff_ne.2 ho
     have hR := HR.out
     rw [if_neg ho] at hR
     have HRR : Hid (chk (n + 1) t d ah = (ah, ownE t)) := hR
     have HO : Hid (¬ ownE t = 0) := ho
     clear HR hR HTR HAT ho ih
     generalize ownE t = x at *
     go_wp2
     go_ret2
     exact ⟨by rw [HRR.out]; rfl, HB1.out⟩
theorem rCheck_any (n : Nat) (w : World) (v : Array Value) (t : T n) (lo hi : Nat) (h : TreeAt w lo hi n v t) (hsz : hi <= w.heap.size) :
  Calls Try.prog 19 #[.agg v] w fun e w' => e = .returned (.int .i64 (chk n t 1 0).2) /\ Below w.heap.size w w' := by
 obtain ⟨k, nm, a, al, ac, tx, ka, kl, kc, rfl⟩ := h.form
 have hc := fun W (hb : Below w.heap.size w W) => rcheck_any n W _ t lo hi 1 0 (h.below hb hsz) (Nat.le_trans hsz hb.size) (by omega) (by omega) (by omega) (by omega)
 have HC := hc _ (below_new' w (.cells #[.int .i64 k, .string nm, .slice a al ac, .string tx, .slice ka kl kc] 36))
 have HBN : Hid (Below w.heap.size w (w.alloc (.cells #[.int .i64 k, .string nm, .slice a al ac, .string tx, .slice ka kl kc] 36))) := below_new' w _
 clear hc h
 go_enter Try.func19, Try.ntmps19
 go_wp2_with fail
 refine HC.mono ?_
 rintro e w1 ⟨rfl, hb1⟩
 go_wp2
 go_ret
 exact ⟨rfl, HBN.out.trans (hb1.mono (by simp))⟩
theorem Check_any (n : Nat) (w : World) (v : Array Value) (t : T n) (lo hi : Nat) (h : TreeAt w lo hi n v t) (hsz : hi <= w.heap.size) :
  Calls Try.prog 23 #[.agg v] w fun e w' => e = .returned (.int .i64 (chk n t 1 0).2) /\ Below w.heap.size w w' := by
 obtain ⟨k, nm, a, al, ac, tx, ka, kl, kc, rfl⟩ := h.form
 have hb0 : Below w.heap.size w ((w.alloc (.cells #[.int .i64 k, .string nm, .slice a al ac, .string tx, .slice ka kl kc] 36)).alloc (.cells #[.int .i64 0] 3)) := (below_new' w _).alloc (by simp) _
 have hi0 : IsCells ((w.alloc (.cells #[.int .i64 k, .string nm, .slice a al ac, .string tx, .slice ka kl kc] 36)).alloc (.cells #[.int .i64 0] 3)) (w.heap.size + 1) #[.int .i64 0] := by
  have := isCells_new (w.alloc (.cells #[.int .i64 k, .string nm, .slice a al ac, .string tx, .slice ka kl kc] 36)) #[.int .i64 0] 3
  simpa using this
 have HC := check_any n _ _ t lo hi (w.heap.size + 1) 1 0 (h.below hb0 hsz) (by omega) hi0 (by omega) (by omega) (by omega) (by omega)
 have HB0 : Hid (Below w.heap.size w ((w.alloc (.cells #[.int .i64 k, .string nm, .slice a al ac, .string tx, .slice ka kl kc] 36)).alloc (.cells #[.int .i64 0] 3))) := hb0
 clear h hb0 hi0
 go_enter Try.func23, Try.ntmps23
 go_wp2_with fail
 refine HC.mono ?_
 rintro e w1 ⟨rfl, ht1, _⟩
 go_wp2
 go_ret
 exact ⟨rfl, HB0.out.trans (ht1.below (by simp; omega) (fun k hk => by omega))⟩
def InfoOf (P : Program) (e : TypeId) (z : Value) (size bytes : Nat) : Prop := (P.info? e).map (fun i => (i.zero, i.size, i.bytes)) = some (some z, size, bytes)
theorem InfoOf.parts {P : Program} {e : TypeId} {z : Value} {size bytes : Nat} (h : InfoOf P e z size bytes) : ∃ i, P.info? e = some i /\ i.zero = some z /\ i.size = size /\ i.bytes = bytes := by
 unfold InfoOf at h
 cases hi : P.info? e with
 | none => rw [hi] at h; cases h
 | some i =>
  rw [hi] at h
  simp only [Option.map_some, Option.some.injEq, Prod.mk.injEq] at h
  exact ⟨i, rfl, h.1, h.2.1, h.2.2⟩
theorem run_app {P : Program} {t ty e : TypeId} {z : Value} {size bytes : Nat} (ht : P.underlying t = some (.slice e)) (hi : InfoOf P e z size bytes) (hzs : z.cells.size = size) (hsz : 0 < size)
  (w : World) (base : Nat) (v : Value) (n : Nat) (xs : List Value) (hown : w.ownsRow base e size v n xs) (a : Option Addr) (m c : Nat) (news : List Value) (hl : news.length = m * size)
  (hnews : ∀ j u, news[j]? = some u -> ∃ ad, a = some ad /\ w.cell? (ad.add j) = some u) (h1 : ∀ u ∈ news, u.oneCell' = true) (h63 : n + m <= maxLen) (hbytes : (n + m) * bytes <= 140737488355328) (hbase : base <= w.heap.size) :
  ∃ v' w', (Builtin.append_ #[t, t] ty #[v, .slice a m c]).run P w = .ok v' w' /\ w'.ownsRow base e size v' (n + m) (xs ++ news) /\ w.grownBy w' v.ownBlock /\
   (v' = .slice none 0 0 ↔ v = .slice none 0 0 /\ m = 0) /\ (v'.ownBlock = v.ownBlock \/ v'.ownBlock = some w.heap.size) := by
 obtain ⟨i, hi0, hz0, hz1, hz2⟩ := hi.parts
 cases a with
 | some ad =>
  exact run_append_own_at (P := P) w base t ty e i z size bytes ht hi0 hz0 hz1 hz2 hzs hsz v n xs hown ad m c news hl (fun j u hu => by
   obtain ⟨ad', h, h'⟩ := hnews j u hu
   cases h
   exact h') h1 h63 hbytes hbase
 | none =>
  have hn : news = [] := by
   cases news with
   | nil => rfl
   | cons u r =>
    obtain ⟨ad', h, _⟩ := hnews 0 u rfl
    cases h
  subst hn
  have hm : m = 0 := by
   simp only [List.length_nil] at hl
   rcases Nat.mul_eq_zero.1 hl.symm with h | h
   ·exact h
   ·omega
  subst hm
  refine ⟨v, w, ?_, by simpa using hown, ⟨rfl, rfl, rfl, Nat.le_refl _, fun _ _ _ => rfl⟩, by simp, .inl rfl⟩
  rcases hown.2 with ⟨rfl, rfl⟩ | ⟨g, cap, cur, rfl, _, _, hc, _⟩
  ·simp [Builtin.append_, run_underlying ht, sizeOf, typeInfo, hi0, Builtin.lenOf, Builtin.firstCells]
  ·have h := run_append_room_src (P := P) w t t ty e i ht hi0 g 0 n cap (.slice none 0 c) 0 [] (by rw [hz1]; exact Src.ofNil w ht c) (by omega) (by simp) (by simp)
   simpa [World.setCells] using h
theorem wpList_app {P : Program} {t e : TypeId} {z : Value} {size bytes : Nat} {w : World} {ops : Array Oper} {rest : List Oper} {o : Oper} {ac : Act} {Q : Exit -> Act -> World -> Prop} (hgd : o.guard = none) (s x : Operand)
  (ho : o.op = .call { callee := .builtin .append, args := #[s, x], argTypes := #[t, t] }) (ht : P.underlying t = some (.slice e)) (hi : InfoOf P e z size bytes) (hzs : z.cells.size = size) (hsz : 0 < size)
  (base : Nat) (v : Value) (n : Nat) (xs : List Value) (hs : ac.eval s = v) (hown : w.ownsRow base e size v n xs) (a : Option Addr) (m c : Nat) (news : List Value) (hx : ac.eval x = .slice a m c) (hl : news.length = m * size)
  (hnews : ∀ j u, news[j]? = some u -> ∃ ad, a = some ad /\ w.cell? (ad.add j) = some u) (h1 : ∀ u ∈ news, u.oneCell' = true) (h63 : n + m <= maxLen) (hbytes : (n + m) * bytes <= 140737488355328) (hbase : base <= w.heap.size)
  (hK : ∀ v' w', w'.ownsRow base e size v' (n + m) (xs ++ news) -> w.grownBy w' v.ownBlock -> (v' = .slice none 0 0 ↔ v = .slice none 0 0 /\ m = 0) -> (v'.ownBlock = v.ownBlock \/ v'.ownBlock = some w.heap.size) -> wpList P ops Q rest (ac.put o.dst v') w') : wpList P ops Q (o :: rest) ac w := by
 refine wpList_plain hgd fun K hK' => ?_
 obtain ⟨v', w', hr, h2, h3, h4, h5⟩ := run_app (ty := o.type) ht hi hzs hsz w base v n xs hown a m c news hl hnews h1 h63 hbytes hbase
 unfold Oper.wp execOp
 simp only [ho, resolve, invoke, builtin, Sem.run_bind, Sem.run_pure, Result.andThen_ok, List.map_toArray, List.map_cons, List.map_nil, hs, hx, hr]
 exact hK' _ _ (hK v' w' h2 h3 h4 h5)
theorem row_cell {w : World} {base : Nat} {e : TypeId} {size : Nat} {a : Option Addr} {n cap : Nat} {xs : List Value} (h : w.ownsRow base e size (.slice a n cap) n xs) :
  n <= cap /\ xs.length = n * size /\ ∀ j u, xs[j]? = some u -> ∃ g, a = some ⟨g, 0, none⟩ /\ base <= g /\ g < w.heap.size /\ w.cell? ⟨g, j, none⟩ = some u := by
 rcases h.2 with ⟨e1, e2⟩ | ⟨g, cap', cur, e1, hb, hh, h1, h2, h3, h4⟩
 ·simp only [Value.slice.injEq] at e1
  obtain ⟨rfl, _, rfl⟩ := e1
  subst e2
  refine ⟨Nat.le_refl _, h.1, fun j u hu => ?_⟩
  have : xs = [] := List.length_eq_zero_iff.1 (by rw [h.1]; simp)
  rw [this] at hu
  simp at hu
 ·simp only [Value.slice.injEq, true_and] at e1
  obtain ⟨rfl, rfl⟩ := e1
  refine ⟨h1, h.1, fun j u hu => ⟨g, rfl, hb, (Array.getElem?_eq_some_iff.1 hh).1, ?_⟩⟩
  have hlt := (List.getElem?_eq_some_iff.1 hu).1
  have hc := congrArg (fun l => l[j]?) h4
  rw [h.1] at hlt
  simp only [hu, List.getElem?_take_of_lt hlt] at hc
  simp [World.cell?, hh]
  simpa using hc
theorem own_slice {w : World} {base : Nat} {e : TypeId} {size : Nat} {v : Value} {n : Nat} {xs : List Value} (h : w.ownsRow base e size v n xs) : ∃ a cap, v = .slice a n cap := by
 rcases h.2 with ⟨rfl, rfl⟩ | ⟨g, cap, cur, rfl, _⟩
 ·exact ⟨_, _, rfl⟩
 ·exact ⟨_, _, rfl⟩
theorem own_block_lt {w : World} {base : Nat} {e : TypeId} {size : Nat} {v : Value} {n : Nat} {xs : List Value} (h : w.ownsRow base e size v n xs) : ∀ k, v.ownBlock = some k -> base <= k /\ k < w.heap.size := by
 intro k hk
 rcases h.2 with ⟨rfl, rfl⟩ | ⟨g, cap, cur, rfl, hb, hh, _⟩
 ·cases hk
 ·simp only [Value.ownBlock, Option.some.injEq] at hk
  subst hk
  exact ⟨hb, (Array.getElem?_eq_some_iff.1 hh).1⟩
theorem own_of_block {w w' : World} {base : Nat} {e : TypeId} {size : Nat} {v : Value} {n : Nat} {xs : List Value} (h : w.ownsRow base e size v n xs) (hb : ∀ k, v.ownBlock = some k -> w'.heap[k]? = w.heap[k]?) : w'.ownsRow base e size v n xs := by
 refine ⟨h.1, ?_⟩
 rcases h.2 with hn | ⟨g, cap, cur, rfl, hb', hh, r⟩
 ·exact .inl hn
 ·exact .inr ⟨g, cap, cur, rfl, hb', (hb g rfl).trans hh, r⟩
theorem own_base {w : World} {base base' : Nat} {e : TypeId} {size : Nat} {v : Value} {n : Nat} {xs : List Value} (h : w.ownsRow base e size v n xs) (hb : ∀ k, v.ownBlock = some k -> base' <= k) : w.ownsRow base' e size v n xs := by
 refine ⟨h.1, ?_⟩
 rcases h.2 with hn | ⟨g, cap, cur, rfl, hb', r⟩
 ·exact .inl hn
 ·exact .inr ⟨g, cap, cur, rfl, hb g rfl, r⟩
theorem own_new (w : World) (e : TypeId) (size : Nat) : (w.alloc (.cells #[] e)).ownsRow w.heap.size e size (.slice (some ⟨w.heap.size, 0, none⟩) 0 0) 0 [] :=
 ⟨by simp, .inr ⟨w.heap.size, 0, #[], rfl, Nat.le_refl _, heap_alloc_new w _, Nat.le_refl _, Nat.zero_le _, by simp, by simp⟩⟩
def AttrsR (w : World) (R : Nat -> Prop) (a : Option Addr) (l : List (ByteArray × ByteArray)) : Prop :=
 ∀ i p, l[i]? = some p -> ∃ b o, a = some ⟨b, o, none⟩ /\ R b /\ w.cell? ⟨b, o + i * 2, none⟩ = some (.string p.1) /\ w.cell? ⟨b, o + i * 2 + 1, none⟩ = some (.string p.2)
def TreeR (w : World) (R : Nat -> Prop) : (n : Nat) -> Array Value -> T n -> Prop
 | 0, _, t => False
 | n + 1, v, t => ∃ (a : Option Addr) (ac : Nat) (ka : Option Addr) (kc : Nat), v = tv t.kind t.name a t.attrs.length ac t.text ka t.kids.length kc /\
   t.attrs.length <= maxA /\ t.kids.length <= maxK /\ t.attrs.length <= ac /\ t.kids.length <= kc /\ AttrsR w R a t.attrs /\
   ∀ i k, t.kids[i]? = some k -> ∃ (b o : Nat) (u : Array Value), ka = some ⟨b, o, none⟩ /\ R b /\ u.size = 5 /\ (∀ j, j < 5 -> w.cell? ⟨b, o + i * 5 + j, none⟩ = u[j]?) /\ TreeR w R n u k
theorem AttrsR.to {w w' : World} {R R' : Nat -> Prop} {a : Option Addr} {l : List (ByteArray × ByteArray)} (h : AttrsR w R a l) (hR : ∀ b, R b -> R' b) (hc : ∀ b o, R b -> w'.cell? ⟨b, o, none⟩ = w.cell? ⟨b, o, none⟩) : AttrsR w' R' a l := by
 intro i p hp
 obtain ⟨b, o, h1, h2, h4, h5⟩ := h i p hp
 exact ⟨b, o, h1, hR _ h2, (hc _ _ h2).trans h4, (hc _ _ h2).trans h5⟩
theorem TreeR.to {w w' : World} {R R' : Nat -> Prop} (hR : ∀ b, R b -> R' b) (hc : ∀ b o, R b -> w'.cell? ⟨b, o, none⟩ = w.cell? ⟨b, o, none⟩) : ∀ {n : Nat} {v : Array Value} {t : T n}, TreeR w R n v t -> TreeR w' R' n v t
 | 0, _, _, h => h.elim
 | n + 1, v, t, h => by
  obtain ⟨a, ac, ka, kc, h1, h2, h3, h4, h5, h6, h7⟩ := h
  refine ⟨a, ac, ka, kc, h1, h2, h3, h4, h5, h6.to hR hc, fun i k hk => ?_⟩
  obtain ⟨b, o, u, g1, g2, g4, g5, g6⟩ := h7 i k hk
  exact ⟨b, o, u, g1, hR _ g2, g4, fun j hj => (hc _ _ g2).trans (g5 j hj), TreeR.to hR hc g6⟩
theorem AttrsAt.toR {w : World} {lo hi : Nat} {a : Option Addr} {l : List (ByteArray × ByteArray)} (h : AttrsAt w lo hi a l) : AttrsR w (fun b => lo <= b /\ b < hi) a l := by
 intro i p hp
 obtain ⟨b, o, h1, h2, h3, h4, h5⟩ := h i p hp
 exact ⟨b, o, h1, ⟨h2, h3⟩, h4, h5⟩
theorem TreeAt.toR {w : World} {lo hi : Nat} : ∀ {n : Nat} {v : Array Value} {t : T n}, TreeAt w lo hi n v t -> TreeR w (fun b => lo <= b /\ b < hi) n v t
 | 0, _, _, h => h.elim
 | n + 1, v, t, h => by
  obtain ⟨a, ac, ka, kc, h1, h2, h3, h4, h5, h6, h7⟩ := h
  refine ⟨a, ac, ka, kc, h1, h2, h3, h4, h5, h6.toR, fun i k hk => ?_⟩
  obtain ⟨b, o, u, g1, g2, g3, g4, g5, g6⟩ := h7 i k hk
  exact ⟨b, o, u, g1, ⟨g2, g3⟩, g4, g5, TreeAt.toR g6⟩
theorem TreeR.form {w : World} {R : Nat -> Prop} : ∀ {n : Nat} {v : Array Value} {t : T n}, TreeR w R n v t -> ∃ k nm a al ac tx ka kl kc, v = #[.int .i64 k, .string nm, .slice a al ac, .string tx, .slice ka kl kc]
 | 0, _, _, h => h.elim
 | n + 1, v, t, h => by
  obtain ⟨a, ac, ka, kc, h1, _⟩ := h
  exact ⟨_, _, _, _, _, _, _, _, _, h1⟩
def attrCells : List (ByteArray × ByteArray) -> List Value
 | [] => []
 | p :: r => .string p.1 :: .string p.2 :: attrCells r
theorem attrCells_length : ∀ l, (attrCells l).length = l.length * 2
 | [] => rfl
 | p :: r => by simp [attrCells, attrCells_length r]; omega
theorem attrCells_one : ∀ l, ∀ u ∈ attrCells l, u.oneCell' = true
 | [], u, h => by simp [attrCells] at h
 | p :: r, u, h => by
  simp only [attrCells, List.mem_cons] at h
  rcases h with rfl | rfl | h
  ·rfl
  ·rfl
  ·exact attrCells_one r u h
theorem attrCells_get : ∀ (l : List (ByteArray × ByteArray)) (i : Nat) (p : ByteArray × ByteArray), l[i]? = some p -> (attrCells l)[i * 2]? = some (.string p.1) /\ (attrCells l)[i * 2 + 1]? = some (.string p.2)
 | [], i, p, h => by simp at h
 | q :: r, 0, p, h => by
  simp at h
  subst h
  exact ⟨rfl, rfl⟩
 | q :: r, i + 1, p, h => by
  have := attrCells_get r i p (by simpa using h)
  rw [show (i + 1) * 2 = i * 2 + 2 from by omega]
  simpa [attrCells] using this
theorem addr_plus (b o j : Nat) : (⟨b, o, none⟩ : Addr).add j = ⟨b, o + j, none⟩ := by unfold Addr.add; split <;> simp_all
theorem AttrsAt.news {w : World} {lo hi : Nat} {a : Option Addr} {l : List (ByteArray × ByteArray)} (h : AttrsAt w lo hi a l) : ∀ j u, (attrCells l)[j]? = some u -> ∃ ad, a = some ad /\ w.cell? (ad.add j) = some u := by
 intro j u hu
 have hlt := (List.getElem?_eq_some_iff.1 hu).1
 rw [attrCells_length] at hlt
 obtain ⟨p, hp⟩ : ∃ p, l[j / 2]? = some p := ⟨_, List.getElem?_eq_getElem (by omega)⟩
 obtain ⟨b, o, rfl, _, _, h1, h2⟩ := h _ p hp
 obtain ⟨g1, g2⟩ := attrCells_get l _ p hp
 refine ⟨_, rfl, ?_⟩
 rw [addr_plus]
 rcases Nat.mod_two_eq_zero_or_one j with e | e
 ·have ej : j / 2 * 2 = j := by omega
  rw [ej] at g1 h1
  rw [hu] at g1
  rw [h1, Option.some.inj g1]
 ·have ej : j / 2 * 2 + 1 = j := by omega
  rw [ej] at g2
  rw [Nat.add_assoc, ej] at h2
  rw [hu] at g2
  rw [h2, Option.some.inj g2]
theorem attrs_row {w : World} {base : Nat} {e : TypeId} {a : Option Addr} {n cap : Nat} {l : List (ByteArray × ByteArray)} {xs : List Value} (h : w.ownsRow base e 2 (.slice a n cap) n xs) (hx : xs = attrCells l) : AttrsR w (fun b => (Value.slice a n cap).ownBlock = some b /\ base <= b /\ b < w.heap.size) a l /\ n = l.length /\ n <= cap := by
 subst hx
 obtain ⟨hc, hl, hcell⟩ := row_cell h
 rw [attrCells_length] at hl
 refine ⟨fun i p hp => ?_, by omega, hc⟩
 obtain ⟨g1, g2⟩ := attrCells_get l i p hp
 obtain ⟨g, rfl, hb, hlt, hc1⟩ := hcell _ _ g1
 obtain ⟨g', e', _, _, hc2⟩ := hcell _ _ g2
 cases e'
 exact ⟨g, 0, rfl, ⟨rfl, hb, hlt⟩, by simpa using hc1, by simpa using hc2⟩
def CopiesAt (w : World) (R : Nat -> Prop) (n : Nat) (xs : List Value) (L : List (T n)) : Prop :=
 xs.length = L.length * 5 /\ (∀ u ∈ xs, u.oneCell' = true) /\ ∀ i k, L[i]? = some k -> ∃ u : Array Value, u.size = 5 /\ (∀ j, j < 5 -> xs[i * 5 + j]? = u[j]?) /\ TreeR w R n u k
theorem CopiesAt.nil (w : World) (R : Nat -> Prop) (n : Nat) : CopiesAt w R n [] [] := ⟨rfl, fun _ h => by simp at h, fun i k h => by simp at h⟩
theorem CopiesAt.to {w w' : World} {R R' : Nat -> Prop} {n : Nat} {xs : List Value} {L : List (T n)} (h : CopiesAt w R n xs L) (hR : ∀ b, R b -> R' b) (hc : ∀ b o, R b -> w'.cell? ⟨b, o, none⟩ = w.cell? ⟨b, o, none⟩) : CopiesAt w' R' n xs L :=
 ⟨h.1, h.2.1, fun i k hk => by
  obtain ⟨u, h1, h2, h3⟩ := h.2.2 i k hk
  exact ⟨u, h1, h2, h3.to hR hc⟩⟩
theorem CopiesAt.snoc {w : World} {R : Nat -> Prop} {n : Nat} {xs : List Value} {L : List (T n)} (h : CopiesAt w R n xs L) {u : Array Value} {k : T n} (hu : TreeR w R n u k) : CopiesAt w R n (xs ++ u.toList) (L ++ [k]) := by
 obtain ⟨kk, nm, a, al, ac, tx, ka, kl, kc, rfl⟩ := hu.form
 refine ⟨by simp [h.1]; omega, fun x hx => ?_, fun i q hq => ?_⟩
 ·rw [List.mem_append] at hx
  rcases hx with hx | hx
  ·exact h.2.1 x hx
  ·simp only [List.mem_cons, List.not_mem_nil, or_false] at hx
   rcases hx with rfl | rfl | rfl | rfl | rfl <;> rfl
 ·have hl := h.1
  rcases Nat.lt_or_ge i L.length with hi | hi
  ·rw [List.getElem?_append_left hi] at hq
   obtain ⟨u, h1, h2, h3⟩ := h.2.2 i q hq
   refine ⟨u, h1, fun j hj => ?_, h3⟩
   rw [List.getElem?_append_left (by omega)]
   exact h2 j hj
  ·have hi' : i = L.length := by
    have := (List.getElem?_eq_some_iff.1 hq).1
    simp at this
    omega
   subst hi'
   simp at hq
   subst hq
   refine ⟨_, rfl, fun j hj => ?_, hu⟩
   rw [List.getElem?_append_right (by omega), hl]
   simp
theorem news_new (w : World) (cs : Array Value) (T : TypeId) : ∀ j u, cs.toList[j]? = some u -> ∃ ad, some (⟨w.heap.size, 0, none⟩ : Addr) = some ad /\ (w.alloc (.cells cs T)).cell? (ad.add j) = some u := by
 intro j u hu
 refine ⟨_, rfl, ?_⟩
 rw [addr_plus, Nat.zero_add, (isCells_new w cs T).cell]
 simpa using hu
theorem tree_one (k : Int) (nm : ByteArray) (a : Option Addr) (al ac : Nat) (tx : ByteArray) (ka : Option Addr) (kl kc : Nat) : ∀ u ∈ [Value.int .i64 k, .string nm, .slice a al ac, .string tx, .slice ka kl kc], u.oneCell' = true := by
 intro u hu
 simp only [List.mem_cons, List.not_mem_nil, or_false] at hu
 rcases hu with rfl | rfl | rfl | rfl | rfl <;> rfl
structure CopSt (w wr : World) (n : Nat) (t : T (n + 1)) (a1 : Option Addr) (cap1 : Nat) (ka : Option Addr) (kc : Nat) (i : Nat) (la : Option Addr) (lcap : Nat) (xs : List Value) : Prop where
 box : IsCells wr w.heap.size #[.int .i64 t.kind, .string t.name, .slice a1 t.attrs.length cap1, .string t.text, .slice ka t.kids.length kc]
 res : IsCells wr (w.heap.size + 1) #[.int .i64 0, .string ⟨#[]⟩, .slice none 0 0, .string ⟨#[]⟩, .slice none 0 0]
 attrs : AttrsR wr (fun b => w.heap.size + 2 <= b /\ b < wr.heap.size /\ (Value.slice la i lcap).ownBlock ≠ some b) a1 t.attrs
 own : wr.ownsRow (w.heap.size + 2) 36 5 (.slice la i lcap) i xs
 kids : CopiesAt wr (fun b => w.heap.size + 2 <= b /\ b < wr.heap.size /\ (Value.slice la i lcap).ownBlock ≠ some b) n xs (t.kids.take i)
 bel : Below w.heap.size w wr
theorem take_more {α : Type} {l : List α} {i : Nat} {x : α} (h : l[i]? = some x) : l.take (i + 1) = l.take i ++ [x] := by rw [List.take_add_one, h]; rfl
theorem CopSt.step {w wr w2 w3 : World} {n : Nat} {t : T (n + 1)} {a1 : Option Addr} {cap1 : Nat} {ka : Option Addr} {kc i : Nat} {la : Option Addr} {lcap : Nat} {xs : List Value} (h : CopSt w wr n t a1 cap1 ka kc i la lcap xs) {k : T n} (hk : t.kids[i]? = some k)
  {u : Array Value} (hu : TreeAt w2 wr.heap.size w2.heap.size n u k) (hb : Below wr.heap.size wr w2) {o : Obj} {la' : Option Addr} {lcap' : Nat} (hown : w3.ownsRow (w.heap.size + 2) 36 5 (.slice la' (i + 1) lcap') (i + 1) (xs ++ u.toList))
  (hg : (w2.alloc o).grownBy w3 (Value.slice la i lcap).ownBlock) (hat : (Value.slice la' (i + 1) lcap').ownBlock = (Value.slice la i lcap).ownBlock \/ (Value.slice la' (i + 1) lcap').ownBlock = some (w2.heap.size + 1)) :
  CopSt w w3 n t a1 cap1 ka kc (i + 1) la' lcap' (xs ++ u.toList) := by
 have hs := hb.size
 have hs3 : w2.heap.size + 1 <= w3.heap.size := by have := hg.size; simpa using this
 have hbl := h.bel.size
 have hox := own_block_lt h.own
 have hbx := h.box.lt
 have hrx := h.res.lt
 have far : ∀ b, b < w2.heap.size -> (Value.slice la i lcap).ownBlock ≠ some b -> w3.heap[b]? = w2.heap[b]? := fun b hb1 hb2 =>
  (hg.block b (by simp; omega) (fun e => hb2 e.symm)).trans (Below.heap_alloc _ _ _ hb1)
 have far2 : ∀ b, b < wr.heap.size -> (Value.slice la i lcap).ownBlock ≠ some b -> w3.heap[b]? = wr.heap[b]? := fun b hb1 hb2 => (far b (by omega) hb2).trans (hb.block b hb1)
 have hnew : ∀ b, b < w2.heap.size -> (Value.slice la i lcap).ownBlock ≠ some b -> (Value.slice la' (i + 1) lcap').ownBlock ≠ some b := fun b h1 h2 e => by
  rcases hat with hat | hat
  ·rw [hat] at e; exact h2 e
  ·rw [hat] at e; simp only [Option.some.injEq] at e; omega
 refine ⟨h.box.of_block (far2 _ hbx (fun e => by have := hox _ e; omega)), h.res.of_block (far2 _ hrx (fun e => by have := hox _ e; omega)), h.attrs.to (fun b hb' => ⟨hb'.1, by omega, hnew b (by omega) hb'.2.2⟩) (fun b o hb' => World.cell?_of_block (w := wr) (a := ⟨b, o, none⟩) (far2 b hb'.2.1 hb'.2.2)), hown, ?_, ?_⟩
 ·rw [take_more hk]
  refine CopiesAt.snoc (h.kids.to (fun b hb' => ⟨hb'.1, by omega, hnew b (by omega) hb'.2.2⟩) (fun b o hb' => World.cell?_of_block (w := wr) (a := ⟨b, o, none⟩) (far2 b hb'.2.1 hb'.2.2))) ?_
  have hne : ∀ b, wr.heap.size <= b -> (Value.slice la i lcap).ownBlock ≠ some b := fun b h1 e => by have := hox _ e; omega
  exact hu.toR.to (fun b hb' => ⟨by omega, by omega, hnew b hb'.2 (hne b hb'.1)⟩) (fun b o hb' => World.cell?_of_block (w := w2) (a := ⟨b, o, none⟩) (far b hb'.2 (hne b hb'.1)))
 ·exact (h.bel.trans (hb.mono hbl)).trans ⟨hg.os, hg.tape, hg.output, by omega, fun k hk => far k (by omega) (fun e => by have := hox _ e; omega)⟩
theorem CopSt.start {w w1 : World} {n : Nat} {t : T (n + 1)} {a : Option Addr} {ac : Nat} {a1 : Option Addr} {cap1 : Nat} {ka : Option Addr} {kc : Nat} (hbx : IsCells w1 w.heap.size #[.int .i64 t.kind, .string t.name, .slice a t.attrs.length ac, .string t.text, .slice ka t.kids.length kc])
  (hrs : IsCells w1 (w.heap.size + 1) #[.int .i64 0, .string ⟨#[]⟩, .slice none 0 0, .string ⟨#[]⟩, .slice none 0 0]) (hat : AttrsR w1 (fun b => w.heap.size + 2 <= b /\ b < w1.heap.size) a1 t.attrs) (hb : Below w.heap.size w w1) :
  CopSt w ((w1.setCell ⟨w.heap.size, 2, none⟩ (.slice a1 t.attrs.length cap1)).alloc (.cells #[] 36)) n t a1 cap1 ka kc 0 (some ⟨w1.heap.size, 0, none⟩) 0 [] := by
 have hs : (w1.setCell ⟨w.heap.size, 2, none⟩ (.slice a1 t.attrs.length cap1)).heap.size = w1.heap.size := by simp [World.setCell]
 have hrl := hrs.lt
 have cellsame : ∀ b o, b < w1.heap.size -> b ≠ w.heap.size -> ((w1.setCell ⟨w.heap.size, 2, none⟩ (.slice a1 t.attrs.length cap1)).alloc (.cells #[] 36)).cell? ⟨b, o, none⟩ = w1.cell? ⟨b, o, none⟩ := fun b o h1 h2 =>
  World.cell?_of_block (w := w1) (a := ⟨b, o, none⟩) ((Below.heap_alloc _ _ _ (by rw [hs]; exact h1)).trans (Below.heap_setCell _ _ _ _ h2))
 refine ⟨(hbx.set 2 _).alloc _, (hrs.other (by simp) _).alloc _, hat.to (fun b hb' => ⟨hb'.1, by simp [World.setCell]; omega, by simp [Value.ownBlock]; omega⟩) (fun b o hb' => cellsame b o hb'.2 (by omega)), ?_, CopiesAt.nil _ _ _, ?_⟩
 ·have := own_new (w1.setCell ⟨w.heap.size, 2, none⟩ (.slice a1 t.attrs.length cap1)) 36 5
  rw [hs] at this
  exact own_base this (fun k hk => by simp only [Value.ownBlock, Option.some.injEq] at hk; omega)
 ·exact (hb.setCell (p := ⟨w.heap.size, 2, none⟩) (Nat.le_refl _) _).alloc (by rw [hs]; exact hb.size) _
end Go.Proofs.Ytmapmkogjhinmaa
