/- A pattern in memory of its own: the law's copied. -/
import Derived.Test.YtmeinebfdljndaaRck
import Derived.Laws.MakeOwn
namespace Go.Proofs.Ytmeinebfdljndaa
open Go.RowKit
set_option linter.unusedVariables false

/-- A pattern lies in memory, in blocks of which R holds. -/
def TwR (w : World) (R : Nat → Prop) : (n : Nat) → Array Value → TP n → Prop
  | 0, _, t => False
  | n + 1, v, t => ∃ (ka : Option Addr) (kc : Nat), v = #[.string t.nm, .bool t.dr, .slice ka t.ks.length kc] ∧ t.ks.length ≤ maxT ∧ t.ks.length ≤ kc ∧
      ∀ i k, t.ks[i]? = some k → ∃ (b o : Nat) (u : Array Value), ka = some ⟨b, o, none⟩ ∧ R b ∧ u.size = 3 ∧ (∀ j, j < 3 → w.cell? ⟨b, o + i * 3 + j, none⟩ = u[j]?) ∧ TwR w R n u k
theorem TwR.to {w w' : World} {R R' : Nat → Prop} (hR : ∀ b, R b → R' b) (hc : ∀ b o, R b → w'.cell? ⟨b, o, none⟩ = w.cell? ⟨b, o, none⟩) : ∀ {n : Nat} {v : Array Value} {t : TP n}, TwR w R n v t → TwR w' R' n v t
  | 0, _, _, h => h.elim
  | n + 1, v, t, h => by
    obtain ⟨ka, kc, h1, h2, h3, h7⟩ := h
    refine ⟨ka, kc, h1, h2, h3, fun i k hk => ?_⟩
    obtain ⟨b, o, u, g1, g2, g4, g5, g6⟩ := h7 i k hk
    exact ⟨b, o, u, g1, hR _ g2, g4, fun j hj => (hc _ _ g2).trans (g5 j hj), TwR.to hR hc g6⟩
theorem TwR.toAt {w : World} {B : Nat} {R : Nat → Prop} (hR : ∀ b, R b → b < B) : ∀ {n : Nat} {v : Array Value} {t : TP n}, TwR w R n v t → TwAt w B n v t
  | 0, _, _, h => h.elim
  | n + 1, v, t, h => by
    obtain ⟨ka, kc, h1, h2, h3, h7⟩ := h
    refine ⟨ka, kc, h1, h2, h3, fun i k hk => ?_⟩
    obtain ⟨b, o, u, g1, g2, g4, g5, g6⟩ := h7 i k hk
    exact ⟨b, o, u, g1, hR _ g2, g4, g5, TwR.toAt hR g6⟩
theorem TwR.form {w : World} {R : Nat → Prop} : ∀ {n : Nat} {v : Array Value} {t : TP n}, TwR w R n v t → ∃ nm dr ka kl kc, v = #[.string nm, .bool dr, .slice ka kl kc]
  | 0, _, _, h => h.elim
  | n + 1, v, t, h => by
    obtain ⟨ka, kc, h1, _⟩ := h
    exact ⟨_, _, _, _, _, h1⟩
/-- Copies, one behind the other, in a row. -/
def CpA (w : World) (R : Nat → Prop) (n : Nat) (xs : List Value) (L : List (TP n)) : Prop :=
  xs.length = L.length * 3 ∧ (∀ u ∈ xs, u.oneCell' = true) ∧ ∀ i k, L[i]? = some k → ∃ u : Array Value, u.size = 3 ∧ (∀ j, j < 3 → xs[i * 3 + j]? = u[j]?) ∧ TwR w R n u k
theorem CpA.nil (w : World) (R : Nat → Prop) (n : Nat) : CpA w R n [] [] := ⟨rfl, fun _ h => by simp at h, fun i k h => by simp at h⟩
theorem CpA.to {w w' : World} {R R' : Nat → Prop} {n : Nat} {xs : List Value} {L : List (TP n)} (h : CpA w R n xs L) (hR : ∀ b, R b → R' b) (hc : ∀ b o, R b → w'.cell? ⟨b, o, none⟩ = w.cell? ⟨b, o, none⟩) : CpA w' R' n xs L :=
  ⟨h.1, h.2.1, fun i k hk => by
    obtain ⟨u, h1, h2, h3⟩ := h.2.2 i k hk
    exact ⟨u, h1, h2, h3.to hR hc⟩⟩
theorem CpA.snoc {w : World} {R : Nat → Prop} {n : Nat} {xs : List Value} {L : List (TP n)} (h : CpA w R n xs L) {u : Array Value} {k : TP n} (hu : TwR w R n u k) : CpA w R n (xs ++ u.toList) (L ++ [k]) := by
  obtain ⟨nm, dr, ka, kl, kc, rfl⟩ := hu.form
  refine ⟨by simp [h.1]; omega, fun x hx => ?_, fun i q hq => ?_⟩
  · rw [List.mem_append] at hx
    rcases hx with hx | hx
    · exact h.2.1 x hx
    · simp only [List.mem_cons, List.not_mem_nil, or_false] at hx
      rcases hx with rfl | rfl | rfl <;> rfl
  · have hl := h.1
    rcases Nat.lt_or_ge i L.length with hi | hi
    · rw [List.getElem?_append_left hi] at hq
      obtain ⟨u, h1, h2, h3⟩ := h.2.2 i q hq
      refine ⟨u, h1, fun j hj => ?_, h3⟩
      rw [List.getElem?_append_left (by omega)]
      exact h2 j hj
    · have hi' : i = L.length := by
        have := (List.getElem?_eq_some_iff.1 hq).1
        simp at this
        omega
      subst hi'
      simp at hq
      subst hq
      refine ⟨_, rfl, fun j hj => ?_, hu⟩
      rw [List.getElem?_append_right (by omega), hl]
      simp
theorem info24 : InfoOf Try.prog 24 (.agg #[.string ⟨#[]⟩, .bool false, .slice none 0 0]) 3 48 := by unfold InfoOf; kernel_rfl

def CpP (w : World) (n : Nat) (t : TP n) (e : Ending) (w' : World) : Prop :=
  ∃ nm dr ka kl kc, e = .returned (.agg #[.string nm, .bool dr, .slice ka kl kc]) ∧ TwR w' (fun b => w.heap.size ≤ b ∧ b < w'.heap.size) n #[.string nm, .bool dr, .slice ka kl kc] t ∧ Below w.heap.size w w'
def CpAll (n : Nat) : Prop := ∀ (w : World) (v : Array Value) (t : TP n), TwAt w w.heap.size n v t → Calls Try.prog 7 #[.agg v] w (CpP w n t)

/-- Under way. -/
structure CpS (w wr : World) (n : Nat) (nm : ByteArray) (dr : Bool) (ks : List (TP n)) (ka : Option Addr) (kc : Nat) (i : Nat) (la : Option Addr) (lcap : Nat) (xs : List Value) : Prop where
  box : IsCells wr w.heap.size #[.string nm, .bool dr, .slice ka ks.length kc]
  res : IsCells wr (w.heap.size + 1) #[.string ⟨#[]⟩, .bool false, .slice none 0 0]
  own : wr.ownsRow (w.heap.size + 2) 24 3 (.slice la i lcap) i xs
  kids : CpA wr (fun b => w.heap.size + 2 ≤ b ∧ b < wr.heap.size ∧ (Value.slice la i lcap).ownBlock ≠ some b) n xs (ks.take i)
  bel : Below w.heap.size w wr
theorem CpS.step {w wr w2 w3 : World} {n : Nat} {nm : ByteArray} {dr : Bool} {ks : List (TP n)} {ka : Option Addr} {kc i : Nat} {la : Option Addr} {lcap : Nat} {xs : List Value} (h : CpS w wr n nm dr ks ka kc i la lcap xs) {k : TP n} (hk : ks[i]? = some k)
    {u : Array Value} (hu : TwR w2 (fun b => wr.heap.size ≤ b ∧ b < w2.heap.size) n u k) (hb : Below wr.heap.size wr w2) {o : Obj} {la' : Option Addr} {lcap' : Nat} (hown : w3.ownsRow (w.heap.size + 2) 24 3 (.slice la' (i + 1) lcap') (i + 1) (xs ++ u.toList))
    (hg : (w2.alloc o).grownBy w3 (Value.slice la i lcap).ownBlock) (hat : (Value.slice la' (i + 1) lcap').ownBlock = (Value.slice la i lcap).ownBlock ∨ (Value.slice la' (i + 1) lcap').ownBlock = some (w2.heap.size + 1)) :
    CpS w w3 n nm dr ks ka kc (i + 1) la' lcap' (xs ++ u.toList) := by
  have hs := hb.size
  have hs3 : w2.heap.size + 1 ≤ w3.heap.size := by have := hg.size; simpa using this
  have hbl := h.bel.size
  have hox := own_block_lt h.own
  have hbx := h.box.lt
  have hrx := h.res.lt
  have far : ∀ b, b < w2.heap.size → (Value.slice la i lcap).ownBlock ≠ some b → w3.heap[b]? = w2.heap[b]? := fun b hb1 hb2 =>
    (hg.block b (by simp; omega) (fun e => hb2 e.symm)).trans (Below.heap_alloc _ _ _ hb1)
  have far2 : ∀ b, b < wr.heap.size → (Value.slice la i lcap).ownBlock ≠ some b → w3.heap[b]? = wr.heap[b]? := fun b hb1 hb2 => (far b (by omega) hb2).trans (hb.block b hb1)
  have hnew : ∀ b, b < w2.heap.size → (Value.slice la i lcap).ownBlock ≠ some b → (Value.slice la' (i + 1) lcap').ownBlock ≠ some b := fun b h1 h2 e => by
    rcases hat with hat | hat
    · rw [hat] at e; exact h2 e
    · rw [hat] at e; simp only [Option.some.injEq] at e; omega
  refine ⟨h.box.of_block (far2 _ hbx (fun e => by have := hox _ e; omega)), h.res.of_block (far2 _ hrx (fun e => by have := hox _ e; omega)), hown, ?_, ?_⟩
  · rw [take_snoc hk]
    refine CpA.snoc (h.kids.to (fun b hb' => ⟨hb'.1, by omega, hnew b (by omega) hb'.2.2⟩) (fun b o hb' => World.cell?_of_block (w := wr) (a := ⟨b, o, none⟩) (far2 b hb'.2.1 hb'.2.2))) ?_
    have hne : ∀ b, wr.heap.size ≤ b → (Value.slice la i lcap).ownBlock ≠ some b := fun b h1 e => by have := hox _ e; omega
    exact hu.to (fun b hb' => ⟨by omega, by omega, hnew b hb'.2 (hne b hb'.1)⟩) (fun b o hb' => World.cell?_of_block (w := w2) (a := ⟨b, o, none⟩) (far b hb'.2 (hne b hb'.1)))
  · exact (h.bel.trans (hb.mono hbl)).trans ⟨hg.os, hg.tape, hg.output, by omega, fun k hk => far k (by omega) (fun e => by have := hox _ e; omega)⟩
/-- At the end: the row is the copy's children. -/
theorem CpS.done {w wr w' : World} {n : Nat} {nm : ByteArray} {dr : Bool} {ks : List (TP n)} {ka : Option Addr} {kc : Nat} {la : Option Addr} {lcap : Nat} {xs : List Value} (h : CpS w wr n nm dr ks ka kc ks.length la lcap xs) (hk : ks.length ≤ maxT) (ht : Tn (fun b => b = w.heap.size ∨ b = w.heap.size + 1) wr w') (t : TP (n + 1)) (hT : t = ⟨nm, dr, ks⟩) :
    TwR w' (fun b => w.heap.size ≤ b ∧ b < w'.heap.size) (n + 1) #[.string nm, .bool dr, .slice la ks.length lcap] t ∧ Below w.heap.size w w' := by
  have hs := ht.size
  have hbl := h.bel.size
  obtain ⟨hc, hl, hcell⟩ := row_cell h.own
  have hkd := h.kids
  rw [List.take_length] at hkd
  refine ⟨?_, h.bel.trans (ht.below (by omega) (fun k hk => by omega))⟩
  subst hT
  refine ⟨la, lcap, rfl, hk, hc, fun i k hi => ?_⟩
  obtain ⟨u, h1, h2, h3⟩ := hkd.2.2 i k hi
  have hilt : i < ks.length := (List.getElem?_eq_some_iff.1 hi).1
  have hlt0 : i * 3 < xs.length := by rw [hl]; omega
  obtain ⟨g, hg1, hg2, hg3, -⟩ := hcell (i * 3) _ (List.getElem?_eq_getElem hlt0)
  have keep : ∀ b o, w.heap.size + 2 ≤ b → b < wr.heap.size → w'.cell? ⟨b, o, none⟩ = wr.cell? ⟨b, o, none⟩ := fun b o b1 b2 => ht.cell b2 (by omega)
  refine ⟨g, 0, u, hg1, ⟨by omega, by omega⟩, h1, fun j hj => ?_, h3.to (fun b hb => ⟨by omega, by omega⟩) (fun b o hb => keep b o hb.1 hb.2.1)⟩
  rw [Nat.zero_add, keep g _ hg2 hg3, ← h2 j hj]
  have hlt1 : i * 3 + j < xs.length := by rw [hl]; omega
  obtain ⟨g', e1, -, -, e2⟩ := hcell (i * 3 + j) _ (List.getElem?_eq_getElem hlt1)
  rw [hg1] at e1
  cases e1
  rw [e2, List.getElem?_eq_getElem hlt1]

set_option maxRecDepth 100000 in
set_option maxHeartbeats 8000000 in
theorem copied_step {n : Nat} (ih : CpAll n) (w : World) (nm : ByteArray) (dr : Bool) (ks : List (TP n)) (ka : Option Addr) (kc : Nat) (hk1 : ks.length ≤ maxT) (hkd : KdAt w w.heap.size n ka ks) (Q : Ending → World → Prop)
    (hQ : ∀ wr w' la lcap xs, CpS w wr n nm dr ks ka kc ks.length la lcap xs → Tn (fun b => b = w.heap.size ∨ b = w.heap.size + 1) wr w' → Q (.returned (.agg #[.string nm, .bool dr, .slice la ks.length lcap])) w') :
    Calls Try.prog 7 #[.agg #[.string nm, .bool dr, .slice ka ks.length kc]] w Q := by
  obtain ⟨W1, hW1⟩ : ∃ W1, W1 = (w.alloc (.cells #[.string nm, .bool dr, .slice ka ks.length kc] 24)).alloc (.cells #[.string ⟨#[]⟩, .bool false, .slice none 0 0] 24) := ⟨_, rfl⟩
  have hs1 : W1.heap.size = w.heap.size + 2 := by rw [hW1]; simp
  obtain ⟨i0, hi0, hz0, hz1, hz2⟩ := info24.parts
  unfold maxT at hk1
  obtain ⟨W2, hmk, hown, hgr⟩ := run_make_own (P := Try.prog) (w := W1) (w.heap.size + 2) 22 24 i0 _ 3 Try.underlying22 hi0 hz0 hz1 .i64 .i64 (ks.length + 1) (by rw [hz2]; omega) (by unfold maxLen; omega) (by omega)
  rw [show ((ks.length + 1 : Nat) : Int) = (ks.length : Int) + 1 by omega] at hmk
  have b1 : Below w.heap.size w W1 := by rw [hW1]; exact ((Below.refl _ _).alloc (Nat.le_refl _) _).alloc (by simp) _
  have x1 : IsCells W1 w.heap.size #[.string nm, .bool dr, .slice ka ks.length kc] := by rw [hW1]; exact (isCells_new w _ 24).alloc _
  have x2 : IsCells W1 (w.heap.size + 1) #[.string ⟨#[]⟩, .bool false, .slice none 0 0] := by
    have := isCells_new (w.alloc (.cells #[.string nm, .bool dr, .slice ka ks.length kc] 24)) #[.string ⟨#[]⟩, .bool false, .slice none 0 0] 24
    rw [hW1]
    simpa using this
  have gs := hgr.size
  have H0 : Hid (CpS w W2 n nm dr ks ka kc 0 (some ⟨W1.heap.size, 0, none⟩) (ks.length + 1) []) := ⟨x1.of_block (hgr.block _ x1.lt (by simp)), x2.of_block (hgr.block _ x2.lt (by simp)), hown, CpA.nil _ _ _, b1.grown hgr b1.size (fun k hk => by cases hk)⟩
  have HW1 : Hid (W1 = (w.alloc (.cells #[.string nm, .bool dr, .slice ka ks.length kc] 24)).alloc (.cells #[.string ⟨#[]⟩, .bool false, .slice none 0 0] 24)) := hW1
  have HK : Hid (KdAt w w.heap.size n ka ks) := hkd
  have HQ : Hid _ := hQ
  rw [hW1] at hmk
  clear hW1 hown hgr b1 x1 x2 hkd hQ hi0 hz0 hz1 hz2
  go_enter Try.func7, Try.ntmps7
  go_wp2
  go_loopw [3, 4] (fun lv v wr => ∃ (i : Nat) (la : Option Addr) (lcap : Nat) (xs : List Value), i ≤ ks.length ∧ v = .int .i64 (i : Int) ∧ lv = .slice la i lcap ∧ Hid (CpS w wr n nm dr ks ka kc i la lcap xs)) (fun _ v _ => ks.length - (intOf v).toNat)
  case atStart => exact ⟨0, some ⟨w.heap.size + 1 + 1, 0, none⟩, ks.length + 1, [], Nat.zero_le _, rfl, rfl, by have h := H0.out; rw [hs1] at h; exact h⟩
  case round =>
    obtain ⟨i, la, lcap, xs, hi', rfl, rfl, hst⟩ := hrel
    clear H0 hmk
    have c2 : wr.cell? ⟨w.heap.size, 2, none⟩ = some (.slice ka ks.length kc) := hst.out.box.cell 2
    have c0 : wr.cell? ⟨w.heap.size, 0, none⟩ = some (.string nm) := hst.out.box.cell 0
    have c1 : wr.cell? ⟨w.heap.size, 1, none⟩ = some (.bool dr) := hst.out.box.cell 1
    have cl := hst.out.box.lt
    have f2 : wr.frozen? ⟨w.heap.size, 2, none⟩ = false := hst.out.box.frozen 2
    have rl := hst.out.res.lt
    by_cases hlt : i < ks.length
    · obtain ⟨k, hk⟩ : ∃ k, ks[i]? = some k := ⟨_, List.getElem?_eq_getElem hlt⟩
      obtain ⟨b, o, nm', dr', ka', kl, kc', rfl, hb, d0, d1, d2, htw⟩ := HK.out.call hst.out.bel hk
      have hbw : b < wr.heap.size := by omega
      have hlt9 : (i : Int) < (ks.length : Int) := by omega
      have hcl := ih wr _ k (htw _ hst.out.bel)
      have HKK : Hid (ks[i]? = some k) := hk
      clear hk htw
      go_wp2_with fail
      refine hcl.mono ?_
      rintro e w2 ⟨nm2, dr2, ka2, kl2, kc2, rfl, htu, hbu⟩
      have hs2 := hbu.size
      have HTU : Hid (TwR w2 (fun b => wr.heap.size ≤ b ∧ b < w2.heap.size) n #[.string nm2, .bool dr2, .slice ka2 kl2 kc2] k ∧ Below wr.heap.size wr w2) := ⟨htu, hbu⟩
      have HOW : Hid ((w2.alloc (.cells #[.string nm2, .bool dr2, .slice ka2 kl2 kc2] 24)).ownsRow (w.heap.size + 2) 24 3 (.slice la i lcap) i xs) := own_of_block hst.out.own (fun k hk => (Below.heap_alloc _ _ _ (by have := (own_block_lt hst.out.own k hk).2; omega)).trans (hbu.block k (own_block_lt hst.out.own k hk).2))
      have hone : ∀ u ∈ [Value.string nm2, .bool dr2, .slice ka2 kl2 kc2], u.oneCell' = true := by
        intro u hu
        simp only [List.mem_cons, List.not_mem_nil, or_false] at hu
        rcases hu with rfl | rfl | rfl <;> rfl
      have HON : Hid (∀ u ∈ [Value.string nm2, .bool dr2, .slice ka2 kl2 kc2], u.oneCell' = true) := hone
      clear htu hbu hcl d0 d1 d2 hone c0 c1 c2 f2
      have tok2 : True := trivial
      go_wp2_with (at_builtin; have _t := tok2; refine wpList_app rfl _ _ rfl Try.underlying22 info24 rfl (by decide) (w.heap.size + 2) (.slice la i lcap) i xs rfl HOW.out (some ⟨w2.heap.size, 0, none⟩) 1 1 [.string nm2, .bool dr2, .slice ka2 kl2 kc2] rfl rfl (news_new w2 #[.string nm2, .bool dr2, .slice ka2 kl2 kc2] 24) HON.out (by unfold maxLen; omega) (by omega) (by simp; omega) ?_; intro v3 w3 hown3 hg3 _ hat3; clear tok2 _t; obtain ⟨la', lcap', hv3⟩ := own_slice hown3; subst hv3; have HST3 : Hid (CpS w w3 n nm dr ks _ kc (i + 1) la' lcap' (xs ++ [.string nm2, .bool dr2, .slice ka2 kl2 kc2])) := hst.out.step HKK.out HTU.out.1 HTU.out.2 hown3 hg3 (by simpa using hat3); clear hown3 hg3 hat3 HTU HKK hst HOW)
      go_roundw
      case rel => exact ⟨i + 1, la', lcap', _, by omega, by go_num, rfl, HST3⟩
      case measure => simp [intOf]; omega
    · have hie : i = ks.length := by omega
      subst hie
      have r0 : wr.cell? ⟨w.heap.size + 1, 0, none⟩ = some (.string ⟨#[]⟩) := hst.out.res.cell 0
      have r1 : wr.cell? ⟨w.heap.size + 1, 1, none⟩ = some (.bool false) := hst.out.res.cell 1
      have r2 : wr.cell? ⟨w.heap.size + 1, 2, none⟩ = some (.slice none 0 0) := hst.out.res.cell 2
      have g0 : wr.frozen? ⟨w.heap.size + 1, 0, none⟩ = false := hst.out.res.frozen 0
      have g1 : wr.frozen? ⟨w.heap.size + 1, 1, none⟩ = false := hst.out.res.frozen 1
      have g2 : wr.frozen? ⟨w.heap.size + 1, 2, none⟩ = false := hst.out.res.frozen 2
      have HE := fun w' => HQ.out wr w' la lcap xs hst.out
      have HE2 : Hid _ := HE
      clear HE HQ hst ih hlt HK
      go_wp2
      refine bodyPost_ret (v := .agg #[.string nm, .bool dr, .slice la ks.length lcap]) (by simp [results, Try.results7, go_sem, r0, r1, r2]) rfl ?_
      exact HE2.out _ (((((Tn.refl _ wr).set (p := ⟨w.heap.size, 2, none⟩) (.inl (.inl rfl)) _).set (p := ⟨w.heap.size + 1, 0, none⟩) (.inl (.inr rfl)) _).set (p := ⟨w.heap.size + 1, 1, none⟩) (.inl (.inr rfl)) _).set (p := ⟨w.heap.size + 1, 2, none⟩) (.inl (.inr rfl)) _)
theorem copied_any : ∀ n, CpAll n
  | 0 => fun w v t h => h.elim
  | n + 1 => by
    intro w v t h
    obtain ⟨ka, kc, rfl, hk1, hk2, hkd⟩ := h
    refine copied_step (copied_any n) w t.nm t.dr t.ks ka kc hk1 hkd _ ?_
    intro wr w' la lcap xs h1 h2
    obtain ⟨h3, h4⟩ := h1.done hk1 h2 t rfl
    exact ⟨_, _, _, _, _, rfl, h3, h4⟩

end Go.Proofs.Ytmeinebfdljndaa
