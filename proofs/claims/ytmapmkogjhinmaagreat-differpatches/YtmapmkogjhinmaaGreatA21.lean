/- The document's making of a tree, child by child. -/
import Derived.Test.YtmapmkogjhinmaaGreatA20
namespace Go.Proofs.YtmapmkogjhinmaaGreat
open Go.RowKit
set_option maxRecDepth 100000
set_option maxHeartbeats 4000000
set_option linter.unusedVariables false
set_option linter.unusedSimpArgs false
theorem growK_comm (n : Nat) {i : Nat} {s : Sl} (hl : s.live = true) (l : List Nat) : ∀ (LL : List (T n)) (H : Nat) (D : Dc), D.S[i]? = some s -> (growK (growD n) H LL D).1.S[i]? = some s := by
 intro LL
 induction LL with
 | nil => intro H D h; exact h
 | cons k r ih =>
  intro H D h
  exact ih H _ (grow_comm n k H D i s l h hl).1
structure MC (w : World) (base rb : Nat) (n H : Nat) (E0 : Dc) (i : Nat) (S0 : Sl) (lo hi : Nat) (ka : Option Addr) (LL : List (T n)) (B : Nat) : Prop where
 ih : MakeAll n
 sane : Sane E0
 cn : cnt takenB E0.S + (LL.map (ndT n)).sum <= 4096
 hh : ∃ q, sl E0 H = some q
 hl : H < 18446744073709551616
 ok : ∀ k ∈ LL, okT n k
 kids : KidsAt w lo hi n ka LL
 hsz : hi <= w.heap.size
 hrb : hi <= rb
 rbB : rb < B
 bB : base <= B
 ei : E0.S[i]? = some S0
 el : S0.live = true
 ek : S0.kind = 2 -> LL = []
structure MS (w : World) (base : Nat) (Q : Nat -> Nat -> Prop) (rb g : Nat) (ra : Option Addr) (rcap : Nat) (D : Dc) (L : List (Value × Value)) (n H : Nat) (E0 : Dc) (i : Nat) (S0 : Sl) (LL : List (T n)) (B : Nat) (aa : Option Addr) (ac : Nat) (R : Nat -> Prop)
  (j : Nat) (wr : World) (Q' : Nat -> Nat -> Prop) (g' : Nat) (L' : List (Value × Value)) (kv : Value) : Prop where
 mg : MG w base Q rb g ra rcap D L (setKI (growK (growD n) H (LL.take j) E0).1 i (growK (growD n) H (LL.take j) E0).2) wr Q' g' L'
 row : L'[i]? = some (.slice aa S0.attrs.length ac, kv)
 own : wr.ownsRow B 32 1 kv j (hvals (growK (growD n) H (LL.take j) E0).2)
 hac : S0.attrs.length <= ac
 att : AttrsR wr R aa S0.attrs
 hR : ∀ b, R b -> b ≠ g' /\ b < wr.heap.size /\ b ≠ rb /\ w.heap.size <= b
 hkv : ∀ b, kv.ownBlock = some b -> b ≠ g' /\ ¬ R b /\ ∀ k, k ≠ i + 1 -> ¬ Q' k b
 bw : w.heap.size <= B
section
variable {w wr : World} {base : Nat} {Q Q' : Nat -> Nat -> Prop} {rb g g' : Nat} {ra : Option Addr} {rcap : Nat} {D : Dc} {L L' : List (Value × Value)} {n H : Nat} {E0 : Dc} {i : Nat} {S0 : Sl} {LL : List (T n)} {B : Nat} {aa : Option Addr} {ac : Nat} {R : Nat -> Prop} {j lo hi : Nat} {kv : Value} {ka : Option Addr}
theorem MC.mid (c : MC w base rb n H E0 i S0 lo hi ka LL B) {k : T n} (hk : LL[j]? = some k) :
  (growK (growD n) H (LL.take j) E0).1.S[i]? = some S0 /\ Sane (setKI (growK (growD n) H (LL.take j) E0).1 i (growK (growD n) H (LL.take j) E0).2) /\ cnt takenB (setKI (growK (growD n) H (LL.take j) E0).1 i (growK (growD n) H (LL.take j) E0).2).S + ndT n k <= 4096 /\
  (∃ q, sl (setKI (growK (growD n) H (LL.take j) E0).1 i (growK (growD n) H (LL.take j) E0).2) H = some q) /\
  growD n k H (setKI (growK (growD n) H (LL.take j) E0).1 i (growK (growD n) H (LL.take j) E0).2) = (setKI (growK (growD n) H (LL.take (j + 1)) E0).1 i (growK (growD n) H (LL.take j) E0).2, (growD n k H (growK (growD n) H (LL.take j) E0).1).2) /\
  (growK (growD n) H (LL.take (j + 1)) E0).2 = (growK (growD n) H (LL.take j) E0).2 ++ [(growD n k H (growK (growD n) H (LL.take j) E0).1).2] /\ (growK (growD n) H (LL.take (j + 1)) E0).1.S[i]? = some S0 := by
 have hs := (take_sum LL j hk).1
 have hcn := c.cn
 have hok : ∀ x ∈ LL.take j, okT n x := fun x hx => c.ok x (List.mem_of_mem_take hx)
 obtain ⟨N, gg⟩ := growK_spec n (LL.take j) H E0 c.sane (by omega) (.inr c.hh) hok
 have h1 := growK_comm n c.el [] (LL.take j) H E0 c.ei
 have h2 := growK_comm n c.el [] (LL.take (j + 1)) H E0 c.ei
 have e : growK (growD n) H (LL.take (j + 1)) E0 = ((growD n k H (growK (growD n) H (LL.take j) E0).1).1, (growK (growD n) H (LL.take j) E0).2 ++ [(growD n k H (growK (growD n) H (LL.take j) E0).1).2]) := by rw [take_more hk, growK_snoc]
 obtain ⟨q, hq⟩ := c.hh
 have hq2 : sl (growK (growD n) H (LL.take j) E0).1 H = some q := by rw [gg.old H (gg.notin (.inr ⟨q, hq⟩))]; exact hq
 refine ⟨h1, sane_setKI gg.sane h1 c.el (fun e2 => ?_), ?_, ?_, ?_, by rw [e], h2⟩
 ·have := c.ek e2
  rw [this] at hk
  simp at hk
 ·rw [setKI_some h1]
  show cnt takenB ((growK (growD n) H (LL.take j) E0).1.S.set i _) + _ <= _
  rw [cnt_set (s' := { S0 with kids := (growK (growD n) H (LL.take j) E0).2 }) h1 rfl, gg.tk]
  omega
 ·rw [setKI_some h1, sl_setS (s' := { S0 with kids := (growK (growD n) H (LL.take j) E0).2 }) h1 rfl rfl]
  split
  ·exact ⟨_, rfl⟩
  ·exact ⟨q, hq2⟩
 ·rw [(grow_comm n k H _ i S0 (growK (growD n) H (LL.take j) E0).2 h1 c.el).2, e]
theorem MS.call (c : MC w base rb n H E0 i S0 lo hi ka LL B) (s : MS w base Q rb g ra rcap D L n H E0 i S0 LL B aa ac R j wr Q' g' L' kv) {k : T n} (hk : LL[j]? = some k) {v : Array Value} (ht : TreeAt wr lo hi n v k) :
  Calls Tryz.prog 66 #[.pointer (some ⟨rb, 0, none⟩), .agg v, .int .u64 (H : Int)] wr (MakeP wr base Q' rb g' ra rcap (setKI (growK (growD n) H (LL.take j) E0).1 i (growK (growD n) H (LL.take j) E0).2) L' (setKI (growK (growD n) H (LL.take (j + 1)) E0).1 i (growK (growD n) H (LL.take j) E0).2) (growD n k H (growK (growD n) H (LL.take j) E0).1).2) := by
 obtain ⟨m1, m2, m3, m4, m5, m6, m7⟩ := c.mid hk
 obtain ⟨cap', hd⟩ := s.mg.doc
 have := c.ih wr v k lo hi H base Q' rb _ g' cap' ra rcap L' ht (Nat.le_trans c.hsz s.mg.turn.size) c.hrb hd m2 m3 (.inr m4) c.hl (c.ok k (List.mem_of_getElem? hk))
 rw [m5] at this
 exact this
theorem MS.kept (c : MC w base rb n H E0 i S0 lo hi ka LL B) (s : MS w base Q rb g ra rcap D L n H E0 i S0 LL B aa ac R j wr Q' g' L' kv) {k : T n} (hk : LL[j]? = some k) {E : Dc} {w9 : World} {Q2 : Nat -> Nat -> Prop} {g2 : Nat} {L2 : List (Value × Value)} (hg : MG wr base Q' rb g' ra rcap (setKI (growK (growD n) H (LL.take j) E0).1 i (growK (growD n) H (LL.take j) E0).2) L' E w9 Q2 g2 L2) :
  L2[i]? = some (.slice aa S0.attrs.length ac, kv) /\ w9.ownsRow B 32 1 kv j (hvals (growK (growD n) H (LL.take j) E0).2) /\ AttrsR w9 R aa S0.attrs /\ (∀ b, R b -> b ≠ g2 /\ b < w9.heap.size /\ b ≠ rb /\ w.heap.size <= b) /\ ∀ b, kv.ownBlock = some b -> b ≠ g2 /\ ¬ R b /\ ∀ k, k ≠ i + 1 -> ¬ Q2 k b := by
 obtain ⟨m1, m2, m3, m4, m5, m6, m7⟩ := c.mid hk
 have hsz := hg.turn.size
 have hrbB := c.rbB
 have hlive : (setKI (growK (growD n) H (LL.take j) E0).1 i (growK (growD n) H (LL.take j) E0).2).S[i]? = some { S0 with kids := (growK (growD n) H (LL.take j) E0).2 } := by rw [setKI_get m1, if_pos rfl]
 obtain ⟨_, k2, k3⟩ := hg.keep i _ hlive c.el
 have hg2 : ∀ b, b < wr.heap.size -> b ≠ g' -> b ≠ g2 := fun b h1 h2 e => by
  rcases hg.gn with e2 | e2
  ·exact h2 (e.trans e2)
  ·omega
 refine ⟨k2.trans s.row, own_of_block s.own (fun b hb => hg.turn.block b (own_block_lt s.own b hb).2 (fun e => ?_)), s.att.to (fun _ h => h) (fun b o hb => World.cell?_of_block (w := wr) (a := ⟨b, o, none⟩) (hg.turn.block b (s.hR b hb).2.1 (fun e => ?_))), fun b hb => ?_, fun b hb => ?_⟩
 ·rcases e with e | e
  ·have := (own_block_lt s.own b hb).1
   omega
  ·exact (s.hkv b hb).1 e
 ·rcases e with e | e
  ·exact (s.hR b hb).2.2.1 e
  ·exact (s.hR b hb).1 e
 ·obtain ⟨x1, x2, x3, x4⟩ := s.hR b hb
  exact ⟨hg2 b x2 x1, by omega, x3, x4⟩
 ·obtain ⟨x1, x2, x3⟩ := s.hkv b hb
  have hlt := (own_block_lt s.own b hb).2
  refine ⟨hg2 b hlt x1, x2, fun k hk hq => ?_⟩
  rcases hg.from' k b hq with h1 | h1
  ·exact x3 k hk h1
  ·omega
theorem MS.push (c : MC w base rb n H E0 i S0 lo hi ka LL B) (s : MS w base Q rb g ra rcap D L n H E0 i S0 LL B aa ac R j wr Q' g' L' kv) {k : T n} (hk : LL[j]? = some k) {w9 w10 w11 : World} {Q2 : Nat -> Nat -> Prop} {g2 : Nat} {L2 : List (Value × Value)} {hh : Nat} {kv' : Value}
  (hg : MG wr base Q' rb g' ra rcap (setKI (growK (growD n) H (LL.take j) E0).1 i (growK (growD n) H (LL.take j) E0).2) L' (setKI (growK (growD n) H (LL.take (j + 1)) E0).1 i (growK (growD n) H (LL.take j) E0).2) w9 Q2 g2 L2) (hhh : hh = (growD n k H (growK (growD n) H (LL.take j) E0).1).2) (hb : Below w9.heap.size w9 w10) (hgr : w10.grownBy w11 kv.ownBlock)
  (hown : w11.ownsRow B 32 1 kv' (j + 1) (hvals (growK (growD n) H (LL.take j) E0).2 ++ [.int .u64 (hh : Int)])) (hat : kv'.ownBlock = kv.ownBlock \/ kv'.ownBlock = some w10.heap.size) (hsi : ∀ s, D.S[i]? = some s -> s.live = false) :
  MS w base Q rb g ra rcap D L n H E0 i S0 LL B aa ac R (j + 1) (w11.setCell ⟨g2, i * 8 + 7, none⟩ kv') (setQ Q2 (i + 1) (fun b => R b \/ kv'.ownBlock = some b)) g2 (L2.set i (.slice aa S0.attrs.length ac, kv')) kv' := by
 obtain ⟨k1, k2, k3, k4, k5⟩ := s.kept c hk hg
 obtain ⟨m1, m2, m3, m4, m5, m6, m7⟩ := c.mid hk
 obtain ⟨cap2, hd⟩ := hg.doc
 have hrbB := c.rbB
 have hbB := c.bB
 have hsz := hb.size
 have hs2 := hgr.size
 have hgb := hd.toS.gb
 have hlen := growK_len (growD n) H (LL.take (j + 1)) E0
 have hkj : j < LL.length := (List.getElem?_eq_some_iff.1 hk).1
 have hl1 : (growK (growD n) H (LL.take (j + 1)) E0).2.length = j + 1 := by rw [hlen, List.length_take]; omega
 have hsl : (setKI (growK (growD n) H (LL.take (j + 1)) E0).1 i (growK (growD n) H (LL.take j) E0).2).S[i]? = some { S0 with kids := (growK (growD n) H (LL.take j) E0).2 } := by rw [setKI_get m7, if_pos rfl]
 have hown' : w11.ownsRow B 32 1 kv' (growK (growD n) H (LL.take (j + 1)) E0).2.length (hvals (growK (growD n) H (LL.take (j + 1)) E0).2) := by
  rw [hl1, m6, hvals_append, <- hhh]
  exact hown
 have hpu := hd.push (s := { S0 with kids := (growK (growD n) H (LL.take j) E0).2 }) (aa := aa) (ac := ac) (kv := kv) (R := R) hsl k1 s.hac k3 (fun b hb => ⟨(k4 b hb).1, (k4 b hb).2.1, (k4 b hb).2.2.1⟩) (fun b hb => ⟨by have := (own_block_lt k2 b hb).1; omega, (k5 b hb).1, (k5 b hb).2.1, (k5 b hb).2.2⟩) hb hgr hown' hat
 have eE : ({ (setKI (growK (growD n) H (LL.take (j + 1)) E0).1 i (growK (growD n) H (LL.take j) E0).2) with S := (setKI (growK (growD n) H (LL.take (j + 1)) E0).1 i (growK (growD n) H (LL.take j) E0).2).S.set i { S0 with kids := (growK (growD n) H (LL.take (j + 1)) E0).2 } } : Dc) = setKI (growK (growD n) H (LL.take (j + 1)) E0).1 i (growK (growD n) H (LL.take (j + 1)) E0).2 := by
  have := setKI_twice (D := (growK (growD n) H (LL.take (j + 1)) E0).1) i (growK (growD n) H (LL.take j) E0).2 (growK (growD n) H (LL.take (j + 1)) E0).2
  rw [setKI_some hsl] at this
  exact this
 have hsz3 : (w11.setCell ⟨g2, i * 8 + 7, none⟩ kv').heap.size = w11.heap.size := by simp [World.setCell]
 have hs9 := hg.turn.size
 have hsw := s.mg.turn.size
 have hbw := s.bw
 have hkb : ∀ b, kv'.ownBlock = some b -> b ≠ g2 /\ ¬ R b /\ ∀ k, k ≠ i + 1 -> ¬ Q2 k b := fun b hb' => by
  rcases hat with e | e
  ·exact k5 b (e ▸ hb')
  ·rw [e] at hb'
   cases hb'
   refine ⟨by omega, fun hr => ?_, fun k hk hq => ?_⟩
   ·have := (k4 _ hr).2.1; omega
   ·have := (hd.qne k _ hq).2; omega
 refine ⟨?_, List.getElem?_set_self (by rw [hd.len]; exact (List.getElem?_eq_some_iff.1 hsl).1), ?_, s.hac, ?_, fun b hb' => ?_, fun b hb' => ?_, s.bw⟩
 ·have hm := s.mg.trans hg
  refine ⟨⟨hgr.os.trans (hb.os.trans hm.turn.os), hgr.tape.trans (hb.tape.trans hm.turn.tape), hgr.output.trans (hb.output.trans hm.turn.output), by rw [hsz3]; have := hm.turn.size; omega, fun b hbl hn => ?_⟩, ⟨cap2, eE ▸ hpu⟩, hm.gn, fun q b hq => ?_, fun q x h1 h2 => ?_⟩
  ·rw [Below.heap_setCell _ _ _ _ (fun e => ?_), hgr.block b (by omega) (fun e => ?_), hb.block b (by omega), hm.turn.block b hbl hn]
   ·have := (own_block_lt s.own b e.symm).1; omega
   ·rcases hm.gn with e2 | e2
    ·exact hn (.inr (e.trans e2))
    ·have e' : b = g2 := e
     omega
  ·rcases hq with ⟨_, hq | hq⟩ | ⟨_, hq⟩
   ·exact .inr (k4 b hq).2.2.2
   ·have := (own_block_lt hown b hq).1
    exact .inr (by omega)
   ·exact hm.from' q b hq
  ·have hne : q ≠ i := fun e => by
    subst e
    rw [hsi x h1] at h2
    cases h2
   obtain ⟨⟨x', y1, y2⟩, y3, y4⟩ := hm.keep q x h1 h2
   rw [setKI_get m7, if_neg hne] at y1
   exact ⟨⟨x', by rw [setKI_get m7, if_neg hne]; exact y1, y2⟩, (List.getElem?_set_ne (Ne.symm hne)).trans y3, fun b => (setQ_other (by omega)).trans (y4 b)⟩
 ·have h0 : (w11.setCell ⟨g2, i * 8 + 7, none⟩ kv').ownsRow B 32 1 kv' (growK (growD n) H (LL.take (j + 1)) E0).2.length (hvals (growK (growD n) H (LL.take (j + 1)) E0).2) := own_of_block hown' (fun b hb' => Below.heap_setCell _ _ _ _ (hkb b hb').1)
  rw [hl1] at h0
  exact h0
 ·exact k3.to (fun _ h => h) (fun b o hb' => World.cell?_of_block (w := w9) (a := ⟨b, o, none⟩) ((Below.heap_setCell _ _ _ _ (k4 b hb').1).trans ((hgr.block b (by have := (k4 b hb').2.1; omega) (fun e => (k5 b e.symm).2.1 hb')).trans (hb.block b (k4 b hb').2.1))))
 ·rw [hsz3]
  obtain ⟨x1, x2, x3, x4⟩ := k4 b hb'
  exact ⟨x1, by omega, x3, x4⟩
 ·obtain ⟨x1, x2, x3⟩ := hkb b hb'
  exact ⟨x1, x2, fun k hk hq => x3 k hk ((setQ_other hk).1 hq)⟩
end
theorem make_t (n : Nat) (ih : MakeAll n) (w : World) (v : Array Value) (t : Nd (T n)) (lo hi p base : Nat) (Q : Nat -> Nat -> Prop) (rb : Nat) (D : Dc) (g cap : Nat) (ra : Option Addr) (rcap : Nat) (L : List (Value × Value)) (h : TreeAt w lo hi (n + 1) v t) (hsz : hi <= w.heap.size) (hrb : hi <= rb) (hd : RdM w base Q rb D g cap ra rcap L)
  (hs : Sane D) (hc : cnt takenB D.S + ndT (n + 1) t <= 4096) (hp : p = 0 \/ ∃ q, sl D p = some q) (hpl : p < 18446744073709551616) (hok : okT (n + 1) t) (hkd : t.kind = 2) :
  Calls Tryz.prog 66 #[.pointer (some ⟨rb, 0, none⟩), .agg v, .int .u64 (p : Int)] w (MakeP w base Q rb g ra rcap D L (growD (n + 1) t p D).1 (growD (n + 1) t p D).2) := by
 obtain ⟨a, ac, ka, kc, rfl, hal, hkl, hac, hkc, hat, hkt⟩ := id h
 unfold tv at h ⊢
 obtain ⟨ho, hkk⟩ := hok
 obtain ⟨ka', kc', hk1, -, hkat, hkm⟩ := h.kids ho
 unfold maxK at hkm
 have HK1 : Hid ((if t.kind = 2 then Value.slice none 0 0 else .slice ka t.kids.length kc) = .slice ka' (kidsT t).length kc') := hk1
 have HKT : Hid (KidsAt w lo hi n ka' (kidsT t)) := hkat
 clear hk1 hkat
 have hko := fun W => rkids_any W t.kind t.name a t.attrs.length ac t.text ka t.kids.length kc
 have hndt : ndT (n + 1) t = ((kidsT t).map (ndT n)).sum + 1 := rfl
 have hc1 : cnt takenB D.S + 1 <= 4096 := by omega
 obtain ⟨f1, f2, f3, f4, f5, f6, ⟨s0, f7, f8, f9, f10⟩, f11, f12⟩ := free_facts hs hc1
 obtain ⟨q1, q2, q3, q4, q5, q6, q7, q8, q9, q10⟩ := seed_facts hs hc1 t p ho
 have HG : Hid (growD (n + 1) t p D = (setKI (growK (growD n) (seedH D) (kidsT t) (seed D t p)).1 (freeD D).1 (growK (growD n) (seedH D) (kidsT t) (seed D t p)).2, seedH D)) := rfl
 rw [HG.out]
 have hfr := rfreeM_any (w.alloc (.cells #[.int .i64 t.kind, .string t.name, .slice a t.attrs.length ac, .string t.text, .slice ka t.kids.length kc] 35)) base Q rb D g cap ra rcap L (hd.below (below_new' w _)) hs.fits
 have HSEED : Hid (seed D t p = { (freeD D).2 with S := (freeD D).2.S.set (freeD D).1 (mkS (genAt (freeD D).2 (freeD D).1 + 1) t p []) }) := rfl
 have HH : Hid (seedH D = hnd (freeD D).1 (genAt (freeD D).2 (freeD D).1 + 1)) := rfl
 have hgb := hd.toS.gb
 have hrl := hd.rbl
 have HM0 : Hid (MG w base Q rb g ra rcap D L D (w.alloc (.cells #[.int .i64 t.kind, .string t.name, .slice a t.attrs.length ac, .string t.text, .slice ka t.kids.length kc] 35)) Q g L) := (MG.start hd).below (below_new' w _)
 have HQN : Hid (∀ k b, Q k b -> b ≠ g /\ b < w.heap.size) := hd.qne
 have hmf := fun e w1 i hk => MG.free (e := e) (w1 := w1) (i := i) (hd.below (below_new' w (.cells #[.int .i64 t.kind, .string t.name, .slice a t.attrs.length ac, .string t.text, .slice ka t.kids.length kc] 35))) hk
 have HSI : Hid (∀ s, D.S[(freeD D).1]? = some s -> s.live = false) := f12
 have hbs := hd.toS.bs
 have HNL : Hid (∀ s, (freeD D).2.S[(freeD D).1]? = some s -> s.live = false) := fun s hs' => by rw [f7] at hs'; cases hs'; exact f8
 generalize hi0 : (freeD D).1 = i at *
 generalize hd1 : (freeD D).2 = D1 at *
 have hil : i < 4096 := by omega
 have HGEN : Hid (s0.gen = genAt D1 i) := f10
 have Hq1 : Hid (Sane (seed D t p)) := q1
 have Hq3 : Hid (cnt takenB (seed D t p).S = cnt takenB D.S + 1) := q3
 have Hq6 : Hid (atI (seed D t p).S (seedH D) = some i) := q6
 have Hq7 : Hid ((seed D t p).S[i]? = some (mkS (genAt D1 i + 1) t p [])) := q7
 have Hf7 : Hid (D1.S[i]? = some s0) := f7
 have hgl : s0.gen + 1 < 4294967296 := by omega
 have hHl : seedH D < 18446744073709551616 := q10
 have hix : (i : Int) < (D1.S.length : Int) := by omega
 have HOK : Hid (∀ k ∈ kidsT t, okT n k) := hkk
 have HAT : Hid (AttrsAt w lo hi a t.attrs) := hat
 have HC : Hid (cnt takenB D.S + ((kidsT t).map (ndT n)).sum + 1 <= 4096) := by show _ <= _; omega
 have HIH : Hid (MakeAll n) := ih
 have HOWN : Hid (ownE t = 0) := ho
 have HBC : Hid (IsCells (w.alloc (.cells #[.int .i64 t.kind, .string t.name, .slice a t.attrs.length ac, .string t.text, .slice ka t.kids.length kc] 35)) w.heap.size #[.int .i64 t.kind, .string t.name, .slice a t.attrs.length ac, .string t.text, .slice ka t.kids.length kc]) := isCells_new w _ _
 have HKD : Hid (t.kind = 2) := hkd
 clear hd hs f1 f2 f3 f4 f5 f6 f7 f8 f9 f10 f11 f12 q1 q2 q3 q4 q5 q6 q7 q8 q9 q10 hkk hat hkt h ih hc hc1 HG hndt ho hp hi0 hd1 hkd
 generalize hE0 : seed D t p = E0 at *
 generalize hH0 : seedH D = H at *
 clear hE0 hH0
 go_enter Tryz.func66, Tryz.ntmps66
 go_wp2_with fail
 refine hfr.mono ?_
 rintro e w1 hfm
 obtain ⟨g1, cap1, L1, hd1, hgg, hmg⟩ := hmf _ _ _ hfm
 obtain ⟨rfl, -, ht1⟩ := hfm
 have hs1 : w.heap.size < w1.heap.size := by have := ht1.size; simp at this; omega
 have HM1 : Hid (MG w base Q rb g ra rcap D L D1 w1 Q g1 L1) := HM0.out.trans hmg
 have hbx : Hid (IsCells w1 w.heap.size #[.int .i64 t.kind, .string t.name, .slice a t.attrs.length ac, .string t.text, .slice ka t.kids.length kc]) := HBC.out.of_block (ht1.block _ (by simp) (by omega))
 have HD1 : Hid (RdM w1 base Q rb D1 g1 cap1 ra rcap L1) := hd1
 obtain ⟨q, hq, -, hcp, hhd, hcl⟩ := hd1.toS.slot Hf7.out
 have hc0 : w1.cell? ⟨g1, i * 8, none⟩ = some (.int .u32 (s0.gen : Int)) := (hcl 0 _ rfl).1
 have hgl1 := hd1.toS.gb
 have hg1l : g1 < w1.heap.size := hgl1.2
 have hrl1 : rb < w1.heap.size := by omega
 have hgr1 : ¬ g1 = rb := by omega
 have hgr2 : ¬ rb = g1 := by omega
 have hb0 := hbx.out.cell 0
 have hb3 := hbx.out.cell 3
 simp at hb0 hb3
 have hgw : ¬ w.heap.size = g1 := by
  rcases hgg with e | e
  ·omega
  ·simp at e
   omega
 clear hfr hd1 hgg ht1 HM0 HBC hq hcl hmf hmg
 go_wp2_with fail
 go_region
 have hkb : (t.kind == 2) = true := beq_iff_eq.2 HKD.out
 go_wp2_with fail
 obtain ⟨w4, hw4⟩ : ∃ w4, w4 = (w1.alloc (.cells #[.int .u32 ((s0.gen : Int) + 1), .bool true, .int .i64 t.kind, .string ⟨#[]⟩, .slice none 0 0, .string t.text, .int .u64 (p : Int), .slice none 0 0] 90)).drew := ⟨_, rfl⟩
 rw [<- hw4]
 have HI4 : Hid (IsCells w4 w1.heap.size #[.int .u32 ((s0.gen : Int) + 1), .bool true, .int .i64 t.kind, .string ⟨#[]⟩, .slice none 0 0, .string t.text, .int .u64 (p : Int), .slice none 0 0]) := by rw [hw4]; exact isCells_new w1 _ 90
 have HB4 : Hid (Below w1.heap.size w1 w4) := by rw [hw4]; exact (below_new' w1 _).drew
 have hat0 : (mkS (genAt D1 i + 1) t p []).attrs = [] := by show (if t.kind = 2 then [] else t.attrs) = _; rw [if_pos HKD.out]
 have HA4 : Hid (AttrsR w4 (fun _ => False) none (mkS (genAt D1 i + 1) t p []).attrs) := by rw [hat0]; intro j x hx; simp at hx
 have HAL : Hid ((mkS (genAt D1 i + 1) t p []).attrs.length = 0) := by rw [hat0]; rfl
 have HNM : Hid ((mkS (genAt D1 i + 1) t p []).name = ⟨#[]⟩) := by show (if t.kind = 2 then _ else t.name) = _; rw [if_pos HKD.out]
 have HTX : Hid ((mkS (genAt D1 i + 1) t p []).text = t.text) := by show (if t.kind = 2 then _ else _) = _; rw [if_pos HKD.out]
 have HR4 : Hid (∀ b, (fun _ : Nat => False) b -> b ≠ g1 /\ b < w4.heap.size /\ b ≠ rb /\ w1.heap.size <= b) := fun b hb => hb.elim
 clear hw4 hat0
 obtain ⟨R, hR⟩ : ∃ R : Nat -> Prop, R = fun _ => False := ⟨_, rfl⟩
 rw [<- hR] at HA4 HR4
 obtain ⟨va, hva⟩ : ∃ va : Option Addr, va = none := ⟨_, rfl⟩
 rw [<- hva] at HA4
 have HV : Hid (va = none) := hva
 clear hR hva
 obtain ⟨tn, htn⟩ : ∃ tn, tn = (⟨#[]⟩ : ByteArray) := ⟨_, rfl⟩
 obtain ⟨tx, htx⟩ : ∃ tx, tx = t.text := ⟨_, rfl⟩
 rw [<- htn] at HI4 HNM
 rw [<- htx] at HI4 HTX
 clear htn htx
 obtain ⟨q, hq, -, hcp, hhd, hcl⟩ := HD1.out.toS.slot Hf7.out
 have hi0 := HI4.out.cell 0
 have hi1 := HI4.out.cell 1
 have hi2 := HI4.out.cell 2
 have hi3 := HI4.out.cell 3
 have hi4 := HI4.out.cell 4
 have hi5 := HI4.out.cell 5
 have hi6 := HI4.out.cell 6
 have hi7 := HI4.out.cell 7
 simp at hi0 hi1 hi2 hi3 hi4 hi5 hi6 hi7
 have hdc4 := (HB4.out.cell (p := ⟨rb, 0, none⟩) hrl1).trans hhd
 have hx0 := (HB4.out.cell (p := ⟨g1, i * 8, none⟩) hg1l).trans (hcl 0 _ rfl).1
 have hy0 := (HB4.out.frozen (p := ⟨g1, i * 8, none⟩) hg1l).trans (hcl 0 _ rfl).2
 have hx1 := (HB4.out.cell (p := ⟨g1, i * 8 + 1, none⟩) hg1l).trans (hcl 1 _ rfl).1
 have hy1 := (HB4.out.frozen (p := ⟨g1, i * 8 + 1, none⟩) hg1l).trans (hcl 1 _ rfl).2
 have hx2 := (HB4.out.cell (p := ⟨g1, i * 8 + 2, none⟩) hg1l).trans (hcl 2 _ rfl).1
 have hy2 := (HB4.out.frozen (p := ⟨g1, i * 8 + 2, none⟩) hg1l).trans (hcl 2 _ rfl).2
 have hx3 := (HB4.out.cell (p := ⟨g1, i * 8 + 3, none⟩) hg1l).trans (hcl 3 _ rfl).1
 have hy3 := (HB4.out.frozen (p := ⟨g1, i * 8 + 3, none⟩) hg1l).trans (hcl 3 _ rfl).2
 have hx4 := (HB4.out.cell (p := ⟨g1, i * 8 + 4, none⟩) hg1l).trans (hcl 4 _ rfl).1
 have hy4 := (HB4.out.frozen (p := ⟨g1, i * 8 + 4, none⟩) hg1l).trans (hcl 4 _ rfl).2
 have hx5 := (HB4.out.cell (p := ⟨g1, i * 8 + 5, none⟩) hg1l).trans (hcl 5 _ rfl).1
 have hy5 := (HB4.out.frozen (p := ⟨g1, i * 8 + 5, none⟩) hg1l).trans (hcl 5 _ rfl).2
 have hx6 := (HB4.out.cell (p := ⟨g1, i * 8 + 6, none⟩) hg1l).trans (hcl 6 _ rfl).1
 have hy6 := (HB4.out.frozen (p := ⟨g1, i * 8 + 6, none⟩) hg1l).trans (hcl 6 _ rfl).2
 have hx7 := (HB4.out.cell (p := ⟨g1, i * 8 + 7, none⟩) hg1l).trans (hcl 7 _ rfl).1
 have hy7 := (HB4.out.frozen (p := ⟨g1, i * 8 + 7, none⟩) hg1l).trans (hcl 7 _ rfl).2
 clear hcl hq hhd hc0
 go_region
 obtain ⟨w5, hw5⟩ : ∃ w5, w5 = ((((((((w4.setCell ⟨g1, i * 8, none⟩ (.int .u32 ((s0.gen : Int) + 1))).setCell ⟨g1, i * 8 + 1, none⟩ (.bool true)).setCell ⟨g1, i * 8 + 2, none⟩ (.int .i64 t.kind)).setCell ⟨g1, i * 8 + 3, none⟩ (.string tn)).setCell ⟨g1, i * 8 + 4, none⟩ (.slice none 0 0)).setCell ⟨g1, i * 8 + 5, none⟩ (.string tx)).setCell ⟨g1, i * 8 + 6, none⟩ (.int .u64 (p : Int))).setCell ⟨g1, i * 8 + 7, none⟩ (.slice none 0 0)).drew := ⟨_, rfl⟩
 rw [<- hw5]
 have hw5' : w5 = (plantW w4 g1 i (mkS (genAt D1 i + 1) t p []) (.slice none 0 0)).drew := by
  rw [hw5]
  unfold plantW
  rw [HNM.out, HTX.out]
  show _ = ((((((((w4.setCell ⟨g1, i * 8, none⟩ (.int .u32 ((genAt D1 i : Int) + 1))).setCell ⟨g1, i * 8 + 1, none⟩ (.bool true)).setCell ⟨g1, i * 8 + 2, none⟩ (.int .i64 t.kind)).setCell ⟨g1, i * 8 + 3, none⟩ (.string tn)).setCell ⟨g1, i * 8 + 4, none⟩ (.slice none 0 0)).setCell ⟨g1, i * 8 + 5, none⟩ (.string tx)).setCell ⟨g1, i * 8 + 6, none⟩ (.int .u64 (p : Int))).setCell ⟨g1, i * 8 + 7, none⟩ (.slice none 0 0)).drew
  rw [<- HGEN.out]
 have k1 := (HD1.out.below HB4.out).plant Hf7.out (mkS (genAt D1 i + 1) t p []) rfl (ac := 0) (by rw [HAL.out]; exact Nat.le_refl _) HA4.out (fun b hb => ⟨(HR4.out b hb).1, (HR4.out b hb).2.1, (HR4.out b hb).2.2.1⟩)
 rw [<- HSEED.out, HAL.out] at k1
 rw [HV.out] at k1
 have k2 : RdM w5 base (setQ Q (i + 1) R) rb E0 g1 cap1 ra rcap (L1.set i ((.slice none 0 0), .slice none 0 0)) := by rw [hw5']; exact k1.below ((Below.refl _ _).drew)
 have hT5 : Turn (fun b => b = g1) w4 w5 := by
  rw [hw5']
  exact (Turn.plant (A := fun b => b = g1) (g := g1) (Turn.refl _ _) (.inl rfl) _ _ _).drew
 have hs4 := HB4.out.size
 have hs5 := hT5.size
 have HM5 : Hid (MG w base Q rb g ra rcap D L E0 w5 (setQ Q (i + 1) R) g1 (L1.set i ((.slice none 0 0), .slice none 0 0))) := HM1.out.trans (MG.step (((below_turn HB4.out).mono (fun _ _ h => h.elim)).trans' hT5) k2 HSEED.out HNL.out (fun b hb => (HR4.out b hb).2.2.2))
 have HD5 : Hid (RdM w5 base (setQ Q (i + 1) R) rb E0 g1 cap1 ra rcap (L1.set i ((.slice none 0 0), .slice none 0 0))) := k2
 have hha : Calls Tryz.prog 101 #[.pointer (some ⟨rb, 0, none⟩), .int .i64 (i : Int)] w5 fun e w' => e = .returned (.int .u64 (H : Int)) /\ w' = w5 := by
  have := rhandle_any w5 _ rb E0 i _ k2.toS.done.view Hq1.out.fits Hq7.out
  rw [HH.out]
  exact this
 have HA5 : Hid (AttrsR w5 R va (mkS (genAt D1 i + 1) t p []).attrs) := HA4.out.to (fun _ h => h) (fun b o hb => World.cell?_of_block (w := w4) (a := ⟨b, o, none⟩) (hT5.block b (HR4.out b hb).2.1 (HR4.out b hb).1))
 have HR5 : Hid (∀ b, R b -> b ≠ g1 /\ b < w5.heap.size /\ b ≠ rb /\ w.heap.size <= b) := fun b hb => by
  obtain ⟨x1, x2, x3, x4⟩ := HR4.out b hb
  exact ⟨x1, by omega, x3, by omega⟩
 have hbx5 : IsCells w5 w.heap.size #[.int .i64 t.kind, .string t.name, .slice a t.attrs.length ac, .string t.text, .slice ka t.kids.length kc] := (hbx.out.of_block (HB4.out.block _ hs1)).of_block (hT5.block _ (by omega) hgw)
 have hb50 := hbx5.cell 0
 have hb51 := hbx5.cell 1
 have hb52 := hbx5.cell 2
 have hb53 := hbx5.cell 3
 have hb54 := hbx5.cell 4
 simp at hb50 hb51 hb52 hb53 hb54
 clear hw5 hw5' k1 k2 hT5 hi0 hi1 hi2 hi3 hi4 hi5 hi6 hi7 hx0 hx1 hx2 hx3 hx4 hx5 hx6 hx7 hy0 hy1 hy2 hy3 hy4 hy5 hy6 hy7 hdc4 HI4 HB4 HA4 HNM HTX hb0 hb3 hbx hbx5 HD1
 go_wp2_with fail
 refine hha.mono ?_
 rintro e w6 ⟨rfl, rfl⟩
 clear hha
 have hkz : kidsT t = [] := by unfold kidsT; rw [if_neg (by rw [HKD.out]; decide)]
 have hko' := hko w6
 rw [if_neg (by rw [HKD.out]; decide)] at hko'
 have HFIN : Hid (setKI (growK (growD n) H (kidsT t) E0).1 i (growK (growD n) H (kidsT t) E0).2 = E0) := by
  show _ = _
  rw [hkz]
  show setKI E0 i [] = E0
  rw [setKI_some Hq7.out]
  unfold setS
  have e0 : ({ (mkS (genAt D1 i + 1) t p []) with kids := [] } : Sl) = mkS (genAt D1 i + 1) t p [] := rfl
  rw [e0]
  have hx := List.getElem?_eq_some_iff.1 Hq7.out
  have : E0.S.set i (mkS (genAt D1 i + 1) t p []) = E0.S := by
   conv => lhs; rw [<- hx.2]
   exact List.set_getElem_self hx.1
  rw [this]
 clear hkz hko
 go_wp2_with fail
 refine hko'.mono ?_
 rintro e w7 ⟨rfl, hb7⟩
 have HB7 : Hid (Below w6.heap.size w6 w7) := hb7
 clear hko' hb7
 go_wp2
 go_loopw [11] (fun iv wr => iv = .int .i64 0 /\ Hid (wr = w7)) (fun _ _ => 0)
 case atStart => exact ⟨rfl, rfl⟩
 case round =>
  obtain ⟨rfl, hwr⟩ := hrel
  go_wp2
  go_ret
  exact ⟨rfl, _, _, _, by rw [hwr.out, HFIN.out]; exact HM5.out.below HB7.out⟩
theorem make_e (n : Nat) (ih : MakeAll n) (w : World) (v : Array Value) (t : Nd (T n)) (lo hi p base : Nat) (Q : Nat -> Nat -> Prop) (rb : Nat) (D : Dc) (g cap : Nat) (ra : Option Addr) (rcap : Nat) (L : List (Value × Value)) (h : TreeAt w lo hi (n + 1) v t) (hsz : hi <= w.heap.size) (hrb : hi <= rb) (hd : RdM w base Q rb D g cap ra rcap L)
  (hs : Sane D) (hc : cnt takenB D.S + ndT (n + 1) t <= 4096) (hp : p = 0 \/ ∃ q, sl D p = some q) (hpl : p < 18446744073709551616) (hok : okT (n + 1) t) (hkd : t.kind = 1) :
  Calls Tryz.prog 66 #[.pointer (some ⟨rb, 0, none⟩), .agg v, .int .u64 (p : Int)] w (MakeP w base Q rb g ra rcap D L (growD (n + 1) t p D).1 (growD (n + 1) t p D).2) := by
 obtain ⟨a, ac, ka, kc, rfl, hal, hkl, hac, hkc, hat, hkt⟩ := id h
 unfold tv at h ⊢
 obtain ⟨ho, hkk⟩ := hok
 obtain ⟨ka', kc', hk1, -, hkat, hkm⟩ := h.kids ho
 unfold maxK at hkm
 have HK1 : Hid ((if t.kind = 2 then Value.slice none 0 0 else .slice ka t.kids.length kc) = .slice ka' (kidsT t).length kc') := hk1
 have HKT : Hid (KidsAt w lo hi n ka' (kidsT t)) := hkat
 clear hk1 hkat
 have hko := fun W => rkids_any W t.kind t.name a t.attrs.length ac t.text ka t.kids.length kc
 have hndt : ndT (n + 1) t = ((kidsT t).map (ndT n)).sum + 1 := rfl
 have hc1 : cnt takenB D.S + 1 <= 4096 := by omega
 obtain ⟨f1, f2, f3, f4, f5, f6, ⟨s0, f7, f8, f9, f10⟩, f11, f12⟩ := free_facts hs hc1
 obtain ⟨q1, q2, q3, q4, q5, q6, q7, q8, q9, q10⟩ := seed_facts hs hc1 t p ho
 have HG : Hid (growD (n + 1) t p D = (setKI (growK (growD n) (seedH D) (kidsT t) (seed D t p)).1 (freeD D).1 (growK (growD n) (seedH D) (kidsT t) (seed D t p)).2, seedH D)) := rfl
 rw [HG.out]
 have hfr := rfreeM_any (w.alloc (.cells #[.int .i64 t.kind, .string t.name, .slice a t.attrs.length ac, .string t.text, .slice ka t.kids.length kc] 35)) base Q rb D g cap ra rcap L (hd.below (below_new' w _)) hs.fits
 have HSEED : Hid (seed D t p = { (freeD D).2 with S := (freeD D).2.S.set (freeD D).1 (mkS (genAt (freeD D).2 (freeD D).1 + 1) t p []) }) := rfl
 have HH : Hid (seedH D = hnd (freeD D).1 (genAt (freeD D).2 (freeD D).1 + 1)) := rfl
 have hgb := hd.toS.gb
 have hrl := hd.rbl
 have HM0 : Hid (MG w base Q rb g ra rcap D L D (w.alloc (.cells #[.int .i64 t.kind, .string t.name, .slice a t.attrs.length ac, .string t.text, .slice ka t.kids.length kc] 35)) Q g L) := (MG.start hd).below (below_new' w _)
 have HQN : Hid (∀ k b, Q k b -> b ≠ g /\ b < w.heap.size) := hd.qne
 have hmf := fun e w1 i hk => MG.free (e := e) (w1 := w1) (i := i) (hd.below (below_new' w (.cells #[.int .i64 t.kind, .string t.name, .slice a t.attrs.length ac, .string t.text, .slice ka t.kids.length kc] 35))) hk
 have HSI : Hid (∀ s, D.S[(freeD D).1]? = some s -> s.live = false) := f12
 have hbs := hd.toS.bs
 have HNL : Hid (∀ s, (freeD D).2.S[(freeD D).1]? = some s -> s.live = false) := fun s hs' => by rw [f7] at hs'; cases hs'; exact f8
 generalize hi0 : (freeD D).1 = i at *
 generalize hd1 : (freeD D).2 = D1 at *
 have hil : i < 4096 := by omega
 have HGEN : Hid (s0.gen = genAt D1 i) := f10
 have Hq1 : Hid (Sane (seed D t p)) := q1
 have Hq3 : Hid (cnt takenB (seed D t p).S = cnt takenB D.S + 1) := q3
 have Hq6 : Hid (atI (seed D t p).S (seedH D) = some i) := q6
 have Hq7 : Hid ((seed D t p).S[i]? = some (mkS (genAt D1 i + 1) t p [])) := q7
 have Hf7 : Hid (D1.S[i]? = some s0) := f7
 have hgl : s0.gen + 1 < 4294967296 := by omega
 have hHl : seedH D < 18446744073709551616 := q10
 have hix : (i : Int) < (D1.S.length : Int) := by omega
 have HOK : Hid (∀ k ∈ kidsT t, okT n k) := hkk
 have HAT : Hid (AttrsAt w lo hi a t.attrs) := hat
 have HC : Hid (cnt takenB D.S + ((kidsT t).map (ndT n)).sum + 1 <= 4096) := by show _ <= _; omega
 have HIH : Hid (MakeAll n) := ih
 have HOWN : Hid (ownE t = 0) := ho
 have HBC : Hid (IsCells (w.alloc (.cells #[.int .i64 t.kind, .string t.name, .slice a t.attrs.length ac, .string t.text, .slice ka t.kids.length kc] 35)) w.heap.size #[.int .i64 t.kind, .string t.name, .slice a t.attrs.length ac, .string t.text, .slice ka t.kids.length kc]) := isCells_new w _ _
 have HKD : Hid (t.kind = 1) := hkd
 clear hd hs f1 f2 f3 f4 f5 f6 f7 f8 f9 f10 f11 f12 q1 q2 q3 q4 q5 q6 q7 q8 q9 q10 hkk hat hkt h ih hc hc1 HG hndt ho hp hi0 hd1 hkd
 generalize hE0 : seed D t p = E0 at *
 generalize hH0 : seedH D = H at *
 clear hE0 hH0
 go_enter Tryz.func66, Tryz.ntmps66
 go_wp2_with fail
 refine hfr.mono ?_
 rintro e w1 hfm
 obtain ⟨g1, cap1, L1, hd1, hgg, hmg⟩ := hmf _ _ _ hfm
 obtain ⟨rfl, -, ht1⟩ := hfm
 have hs1 : w.heap.size < w1.heap.size := by have := ht1.size; simp at this; omega
 have HM1 : Hid (MG w base Q rb g ra rcap D L D1 w1 Q g1 L1) := HM0.out.trans hmg
 have hbx : Hid (IsCells w1 w.heap.size #[.int .i64 t.kind, .string t.name, .slice a t.attrs.length ac, .string t.text, .slice ka t.kids.length kc]) := HBC.out.of_block (ht1.block _ (by simp) (by omega))
 have HD1 : Hid (RdM w1 base Q rb D1 g1 cap1 ra rcap L1) := hd1
 obtain ⟨q, hq, -, hcp, hhd, hcl⟩ := hd1.toS.slot Hf7.out
 have hc0 : w1.cell? ⟨g1, i * 8, none⟩ = some (.int .u32 (s0.gen : Int)) := (hcl 0 _ rfl).1
 have hgl1 := hd1.toS.gb
 have hg1l : g1 < w1.heap.size := hgl1.2
 have hrl1 : rb < w1.heap.size := by omega
 have hgr1 : ¬ g1 = rb := by omega
 have hgr2 : ¬ rb = g1 := by omega
 have hb0 := hbx.out.cell 0
 have hb3 := hbx.out.cell 3
 simp at hb0 hb3
 have hgw : ¬ w.heap.size = g1 := by
  rcases hgg with e | e
  ·omega
  ·simp at e
   omega
 clear hfr hd1 hgg ht1 HM0 HBC hq hcl hmf hmg
 go_wp2_with fail
 go_region
 have hkb : (t.kind == 2) = false := by rw [HKD.out]; decide
 have hk32 : t.attrs.length <= 32 := by
  have := HOWN.out
  unfold ownE at this
  rw [if_pos HKD.out] at this
  split at this
  ·unfold attrsE at this
   split at this
   ·cases this
   ·omega
  ·cases this
 go_wp2_with fail
 obtain ⟨W0, hW0⟩ : ∃ W0, W0 = (w1.alloc (.cells #[.int .u32 ((s0.gen : Int) + 1), .bool true, .int .i64 t.kind, .string ⟨#[]⟩, .slice none 0 0, .string ⟨#[]⟩, .int .u64 (p : Int), .slice none 0 0] 90)).drew := ⟨_, rfl⟩
 rw [<- hW0]
 have HX2 : Hid (IsCells W0 w1.heap.size #[.int .u32 ((s0.gen : Int) + 1), .bool true, .int .i64 t.kind, .string ⟨#[]⟩, .slice none 0 0, .string ⟨#[]⟩, .int .u64 (p : Int), .slice none 0 0]) := by rw [hW0]; exact isCells_new w1 _ 90
 have HB0 : Hid (Below w1.heap.size w1 W0) := by rw [hW0]; exact (below_new' w1 _).drew
 have hs0 : w1.heap.size < W0.heap.size := by rw [hW0]; show _ < (w1.alloc _).heap.size; simp
 clear hW0
 have HB3 : Hid (Below W0.heap.size W0 (W0.alloc (.cells #[] 52)).drew) := (below_new' W0 _).drew
 have HN1 : Hid (∀ m u, (attrCells t.attrs)[m]? = some u -> ∃ ad, a = some ad /\ ((W0.alloc (.cells #[] 52)).drew).cell? (ad.add m) = some u) := (HAT.out.toR.to (fun _ h => h) (fun b o hb => by
  have e1 : w1.cell? ⟨b, o, none⟩ = w.cell? ⟨b, o, none⟩ := World.cell?_of_block (w := w) (a := ⟨b, o, none⟩) (HM1.out.turn.block b (by omega) (by omega))
  exact ((HB3.out.cell (p := ⟨b, o, none⟩) (show b < W0.heap.size by omega)).trans (HB0.out.cell (p := ⟨b, o, none⟩) (show b < w1.heap.size by omega))).trans e1)).news
 have HT1 : Hid ((attrCells t.attrs).length = t.attrs.length * 2) := by show _ = _; rw [attrCells_length]
 have hwn1 : ¬ w.heap.size = w1.heap.size := by omega
 have hwn2 : ¬ w1.heap.size = w.heap.size := by omega
 have hwl : w.heap.size < W0.heap.size := by omega
 have hbc := fun o => (hbx.out.of_block (HB0.out.block _ hs1)).cell o
 have qb1 : W0.cell? ⟨w.heap.size, 1, none⟩ = some (.string t.name) := hbc 1
 have qb2 : W0.cell? ⟨w.heap.size, 2, none⟩ = some (.slice a t.attrs.length ac) := hbc 2
 have hcc3 : W0.cell? ⟨w1.heap.size, 3, none⟩ = some (.string ⟨#[]⟩) := HX2.out.cell 3
 have hcc4 : W0.cell? ⟨w1.heap.size, 4, none⟩ = some (.slice none 0 0) := HX2.out.cell 4
 clear hbc
 have tok1 : True := trivial
 go_region_held3 (fun W => W.cell? ⟨w.heap.size, 1, none⟩ = some (.string t.name) /\ W.cell? ⟨w.heap.size, 2, none⟩ = some (.slice a t.attrs.length ac)) (go_keep)
  (first
   | (have _t := tok1; refine step_app (by rfl) _ _ (by rfl) Tryz.underlying33 info128 rfl (by decide) W0.heap.size (.slice (some ⟨W0.heap.size, 0, none⟩) 0 0) 0 [] (by rfl) (by exact own_of_block (own_new W0 52 2) (fun _ _ => rfl)) a t.attrs.length ac (attrCells t.attrs) (by rfl) HT1.out HN1.out (attrCells_one _) (by unfold maxLen; omega) (by omega) (by simp) ?_; intro v1 w3 hown1 hg1 _ hat1; obtain ⟨va, vc, hv1⟩ := own_slice hown1; subst hv1; rw [Nat.zero_add, List.nil_append] at hown1; rw [Nat.zero_add]; have HO1 : Hid (w3.ownsRow W0.heap.size 52 2 (.slice va t.attrs.length vc) t.attrs.length (attrCells t.attrs)) := hown1; have HB4a : Hid (Below W0.heap.size W0 w3) := HB3.out.grown hg1 (by simp) (fun k hk => by simp only [Value.ownBlock, Option.some.injEq] at hk; omega); have r1 := (HB4a.out.cell (p := ⟨w.heap.size, 1, none⟩) hwl).trans qb1; have r2 := (HB4a.out.cell (p := ⟨w.heap.size, 2, none⟩) hwl).trans qb2; have HIC : Hid (IsCells w3 w1.heap.size #[.int .u32 ((s0.gen : Int) + 1), .bool true, .int .i64 t.kind, .string ⟨#[]⟩, .slice none 0 0, .string ⟨#[]⟩, .int .u64 (p : Int), .slice none 0 0]) := HX2.out.of_block (HB4a.out.block w1.heap.size (by omega)); have y3 : w3.cell? ⟨w1.heap.size, 3, none⟩ = some (.string ⟨#[]⟩) := HIC.out.cell 3; have y4 : w3.cell? ⟨w1.heap.size, 4, none⟩ = some (.slice none 0 0) := HIC.out.cell 4; have z3 := HIC.out.frozen 3; have z4 := HIC.out.frozen 4; clear hown1 hg1 hat1 tok1 _t))
 obtain ⟨al, hav⟩ : ∃ al, al = t.attrs.length := ⟨_, rfl⟩
 rw [<- hav]
 obtain ⟨w4, hw4⟩ : ∃ w4, w4 = (w3.setCell ⟨w1.heap.size, 3, none⟩ (.string t.name)).setCell ⟨w1.heap.size, 4, none⟩ (.slice va al vc) := ⟨_, rfl⟩
 rw [<- hw4]
 have HI4 : Hid (IsCells w4 w1.heap.size #[.int .u32 ((s0.gen : Int) + 1), .bool true, .int .i64 t.kind, .string t.name, .slice va al vc, .string ⟨#[]⟩, .int .u64 (p : Int), .slice none 0 0]) := by
  show IsCells _ _ _
  rw [hw4]
  have := (HIC.out.set 3 (.string t.name)).set 4 (.slice va al vc)
  simpa using this
 have HT4 : Turn (fun b => b = w1.heap.size) w3 w4 := by
  rw [hw4]
  exact ((Turn.refl _ _).setCell (A := fun b => b = w1.heap.size) (p := ⟨w1.heap.size, 3, none⟩) rfl _).setCell (A := fun b => b = w1.heap.size) (p := ⟨w1.heap.size, 4, none⟩) rfl _
 have hs3 := HB4a.out.size
 have HB4 : Hid (Below w1.heap.size w1 w4) := (HB0.out.trans (HB4a.out.mono (by omega))).trans (HT4.below (by omega) (fun k hk => by omega))
 have hO4 : w4.ownsRow W0.heap.size 52 2 (.slice va t.attrs.length vc) t.attrs.length (attrCells t.attrs) := own_of_block HO1.out (fun k hk => HT4.block k (own_block_lt HO1.out k hk).2 (by have := (own_block_lt HO1.out k hk).1; omega))
 have hat1 : (mkS (genAt D1 i + 1) t p []).attrs = t.attrs := by show (if t.kind = 2 then [] else t.attrs) = _; rw [if_neg (by rw [HKD.out]; decide)]
 obtain ⟨a', c', e', hle, hAR⟩ := attrs_row' (R := fun b => (Value.slice va al vc).ownBlock = some b) hO4 (fun b hb => by rw [hav]; exact hb)
 simp only [Value.slice.injEq] at e'
 obtain ⟨e1', -, e3'⟩ := e'
 have HA4 : Hid (AttrsR w4 (fun b => (Value.slice va al vc).ownBlock = some b) va (mkS (genAt D1 i + 1) t p []).attrs) := by rw [hat1, e1']; exact e1' ▸ hAR
 have HAC : Hid ((mkS (genAt D1 i + 1) t p []).attrs.length <= vc) := by rw [hat1, e3']; exact hle
 have HAL : Hid ((mkS (genAt D1 i + 1) t p []).attrs.length = al) := by rw [hat1, hav]; rfl
 have HNM : Hid ((mkS (genAt D1 i + 1) t p []).name = t.name) := by show (if t.kind = 2 then _ else t.name) = _; rw [if_neg (by rw [HKD.out]; decide)]
 have HTX : Hid ((mkS (genAt D1 i + 1) t p []).text = ⟨#[]⟩) := by show (if t.kind = 2 then _ else _) = _; rw [if_neg (by rw [HKD.out]; decide)]
 have HR4 : Hid (∀ b, (Value.slice va al vc).ownBlock = some b -> b ≠ g1 /\ b < w4.heap.size /\ b ≠ rb /\ w1.heap.size <= b) := fun b hb => by
  have := own_block_lt hO4 b (by rw [<- hav]; exact hb)
  exact ⟨by omega, this.2, by omega, by omega⟩
 obtain ⟨R, hR⟩ : ∃ R : Nat -> Prop, R = fun b => (Value.slice va al vc).ownBlock = some b := ⟨_, rfl⟩
 have HR4 : Hid (∀ b, R b -> b ≠ g1 /\ b < w4.heap.size /\ b ≠ rb /\ w1.heap.size <= b) := by rw [hR]; exact HR4.out
 rw [<- hR] at HA4
 clear hR hat1 e1' e3' hle hAR hO4 HT4 hw4 hav HIC HO1 HB4a HB0 HX2 HB3 HN1 HT1 r1 r2 y3 y4 z3 z4 qb1 qb2 hcc3 hcc4 hwl hs0 hs3
 obtain ⟨tn, htn⟩ : ∃ tn, tn = t.name := ⟨_, rfl⟩
 obtain ⟨tx, htx⟩ : ∃ tx, tx = (⟨#[]⟩ : ByteArray) := ⟨_, rfl⟩
 rw [<- htn] at HI4 HNM
 rw [<- htx] at HI4 HTX
 clear htn htx
 go_wp2_with fail
 obtain ⟨q, hq, -, hcp, hhd, hcl⟩ := HD1.out.toS.slot Hf7.out
 have hi0 := HI4.out.cell 0
 have hi1 := HI4.out.cell 1
 have hi2 := HI4.out.cell 2
 have hi3 := HI4.out.cell 3
 have hi4 := HI4.out.cell 4
 have hi5 := HI4.out.cell 5
 have hi6 := HI4.out.cell 6
 have hi7 := HI4.out.cell 7
 simp at hi0 hi1 hi2 hi3 hi4 hi5 hi6 hi7
 have hdc4 := (HB4.out.cell (p := ⟨rb, 0, none⟩) hrl1).trans hhd
 have hx0 := (HB4.out.cell (p := ⟨g1, i * 8, none⟩) hg1l).trans (hcl 0 _ rfl).1
 have hy0 := (HB4.out.frozen (p := ⟨g1, i * 8, none⟩) hg1l).trans (hcl 0 _ rfl).2
 have hx1 := (HB4.out.cell (p := ⟨g1, i * 8 + 1, none⟩) hg1l).trans (hcl 1 _ rfl).1
 have hy1 := (HB4.out.frozen (p := ⟨g1, i * 8 + 1, none⟩) hg1l).trans (hcl 1 _ rfl).2
 have hx2 := (HB4.out.cell (p := ⟨g1, i * 8 + 2, none⟩) hg1l).trans (hcl 2 _ rfl).1
 have hy2 := (HB4.out.frozen (p := ⟨g1, i * 8 + 2, none⟩) hg1l).trans (hcl 2 _ rfl).2
 have hx3 := (HB4.out.cell (p := ⟨g1, i * 8 + 3, none⟩) hg1l).trans (hcl 3 _ rfl).1
 have hy3 := (HB4.out.frozen (p := ⟨g1, i * 8 + 3, none⟩) hg1l).trans (hcl 3 _ rfl).2
 have hx4 := (HB4.out.cell (p := ⟨g1, i * 8 + 4, none⟩) hg1l).trans (hcl 4 _ rfl).1
 have hy4 := (HB4.out.frozen (p := ⟨g1, i * 8 + 4, none⟩) hg1l).trans (hcl 4 _ rfl).2
 have hx5 := (HB4.out.cell (p := ⟨g1, i * 8 + 5, none⟩) hg1l).trans (hcl 5 _ rfl).1
 have hy5 := (HB4.out.frozen (p := ⟨g1, i * 8 + 5, none⟩) hg1l).trans (hcl 5 _ rfl).2
 have hx6 := (HB4.out.cell (p := ⟨g1, i * 8 + 6, none⟩) hg1l).trans (hcl 6 _ rfl).1
 have hy6 := (HB4.out.frozen (p := ⟨g1, i * 8 + 6, none⟩) hg1l).trans (hcl 6 _ rfl).2
 have hx7 := (HB4.out.cell (p := ⟨g1, i * 8 + 7, none⟩) hg1l).trans (hcl 7 _ rfl).1
 have hy7 := (HB4.out.frozen (p := ⟨g1, i * 8 + 7, none⟩) hg1l).trans (hcl 7 _ rfl).2
 clear hcl hq hhd hc0
 go_region
 obtain ⟨w5, hw5⟩ : ∃ w5, w5 = ((((((((w4.setCell ⟨g1, i * 8, none⟩ (.int .u32 ((s0.gen : Int) + 1))).setCell ⟨g1, i * 8 + 1, none⟩ (.bool true)).setCell ⟨g1, i * 8 + 2, none⟩ (.int .i64 t.kind)).setCell ⟨g1, i * 8 + 3, none⟩ (.string tn)).setCell ⟨g1, i * 8 + 4, none⟩ (.slice va al vc)).setCell ⟨g1, i * 8 + 5, none⟩ (.string tx)).setCell ⟨g1, i * 8 + 6, none⟩ (.int .u64 (p : Int))).setCell ⟨g1, i * 8 + 7, none⟩ (.slice none 0 0)).drew := ⟨_, rfl⟩
 rw [<- hw5]
 have hw5' : w5 = (plantW w4 g1 i (mkS (genAt D1 i + 1) t p []) (.slice va al vc)).drew := by
  rw [hw5]
  unfold plantW
  rw [HNM.out, HTX.out]
  show _ = ((((((((w4.setCell ⟨g1, i * 8, none⟩ (.int .u32 ((genAt D1 i : Int) + 1))).setCell ⟨g1, i * 8 + 1, none⟩ (.bool true)).setCell ⟨g1, i * 8 + 2, none⟩ (.int .i64 t.kind)).setCell ⟨g1, i * 8 + 3, none⟩ (.string tn)).setCell ⟨g1, i * 8 + 4, none⟩ (.slice va al vc)).setCell ⟨g1, i * 8 + 5, none⟩ (.string tx)).setCell ⟨g1, i * 8 + 6, none⟩ (.int .u64 (p : Int))).setCell ⟨g1, i * 8 + 7, none⟩ (.slice none 0 0)).drew
  rw [<- HGEN.out]
 have k1 := (HD1.out.below HB4.out).plant Hf7.out (mkS (genAt D1 i + 1) t p []) rfl (ac := vc) HAC.out HA4.out (fun b hb => ⟨(HR4.out b hb).1, (HR4.out b hb).2.1, (HR4.out b hb).2.2.1⟩)
 rw [<- HSEED.out, HAL.out] at k1
 skip
 have k2 : RdM w5 base (setQ Q (i + 1) R) rb E0 g1 cap1 ra rcap (L1.set i ((.slice va al vc), .slice none 0 0)) := by rw [hw5']; exact k1.below ((Below.refl _ _).drew)
 have hT5 : Turn (fun b => b = g1) w4 w5 := by
  rw [hw5']
  exact (Turn.plant (A := fun b => b = g1) (g := g1) (Turn.refl _ _) (.inl rfl) _ _ _).drew
 have hs4 := HB4.out.size
 have hs5 := hT5.size
 have HM5 : Hid (MG w base Q rb g ra rcap D L E0 w5 (setQ Q (i + 1) R) g1 (L1.set i ((.slice va al vc), .slice none 0 0))) := HM1.out.trans (MG.step (((below_turn HB4.out).mono (fun _ _ h => h.elim)).trans' hT5) k2 HSEED.out HNL.out (fun b hb => (HR4.out b hb).2.2.2))
 have HD5 : Hid (RdM w5 base (setQ Q (i + 1) R) rb E0 g1 cap1 ra rcap (L1.set i ((.slice va al vc), .slice none 0 0))) := k2
 have hha : Calls Tryz.prog 101 #[.pointer (some ⟨rb, 0, none⟩), .int .i64 (i : Int)] w5 fun e w' => e = .returned (.int .u64 (H : Int)) /\ w' = w5 := by
  have := rhandle_any w5 _ rb E0 i _ k2.toS.done.view Hq1.out.fits Hq7.out
  rw [HH.out]
  exact this
 have HA5 : Hid (AttrsR w5 R va (mkS (genAt D1 i + 1) t p []).attrs) := HA4.out.to (fun _ h => h) (fun b o hb => World.cell?_of_block (w := w4) (a := ⟨b, o, none⟩) (hT5.block b (HR4.out b hb).2.1 (HR4.out b hb).1))
 have HR5 : Hid (∀ b, R b -> b ≠ g1 /\ b < w5.heap.size /\ b ≠ rb /\ w.heap.size <= b) := fun b hb => by
  obtain ⟨x1, x2, x3, x4⟩ := HR4.out b hb
  exact ⟨x1, by omega, x3, by omega⟩
 have hbx5 : IsCells w5 w.heap.size #[.int .i64 t.kind, .string t.name, .slice a t.attrs.length ac, .string t.text, .slice ka t.kids.length kc] := (hbx.out.of_block (HB4.out.block _ hs1)).of_block (hT5.block _ (by omega) hgw)
 have hb50 := hbx5.cell 0
 have hb51 := hbx5.cell 1
 have hb52 := hbx5.cell 2
 have hb53 := hbx5.cell 3
 have hb54 := hbx5.cell 4
 simp at hb50 hb51 hb52 hb53 hb54
 clear hw5 hw5' k1 k2 hT5 hi0 hi1 hi2 hi3 hi4 hi5 hi6 hi7 hx0 hx1 hx2 hx3 hx4 hx5 hx6 hx7 hy0 hy1 hy2 hy3 hy4 hy5 hy6 hy7 hdc4 HI4 HB4 HA4 HNM HTX hb0 hb3 hbx hbx5 HD1
 go_wp2_with fail
 refine hha.mono ?_
 rintro e w6 ⟨rfl, rfl⟩
 clear hha
 have hk1 := HK1.out
 rw [if_neg (by rw [HKD.out]; decide)] at hk1
 have hko' : Calls Tryz.prog 99 #[.agg #[.int .i64 t.kind, .string t.name, .slice a t.attrs.length ac, .string t.text, .slice ka t.kids.length kc]] w6 fun e w' => e = .returned (.slice ka' (kidsT t).length kc') /\ Below w6.heap.size w6 w' := (hko w6).mono (by
  rintro e w' ⟨rfl, hb⟩
  exact ⟨by rw [if_pos HKD.out, hk1], hb⟩)
 clear hko hk1 HK1
 go_wp2_with fail
 refine hko'.mono ?_
 rintro e w7 ⟨rfl, hb7⟩
 have hs7 := hb7.size
 have HMC : Hid (MC w base rb n H E0 i (mkS (genAt D1 i + 1) t p []) lo hi ka' (kidsT t) w.heap.size) := ⟨HIH.out, Hq1.out, by have := Hq3.out; have := HC.out; omega, ⟨mkS (genAt D1 i + 1) t p [], by unfold sl; rw [Hq6.out]; exact Hq7.out⟩, hHl, HOK.out, HKT.out, hsz, hrb, by omega, hbs, Hq7.out, rfl, fun e2 => by
  have e3 : t.kind = 2 := e2
  rw [HKD.out] at e3
  cases e3⟩
 have HE00 : Hid (setKI E0 i [] = E0) := by
  show _ = _
  rw [setKI_some Hq7.out]
  unfold setS
  have e0 : ({ (mkS (genAt D1 i + 1) t p []) with kids := [] } : Sl) = mkS (genAt D1 i + 1) t p [] := rfl
  rw [e0]
  have hx := List.getElem?_eq_some_iff.1 Hq7.out
  have : E0.S.set i (mkS (genAt D1 i + 1) t p []) = E0.S := by
   conv => lhs; rw [<- hx.2]
   exact List.set_getElem_self hx.1
  rw [this]
 have HST : Hid (∃ Q' g' L' kv, MS w base Q rb g ra rcap D L n H E0 i (mkS (genAt D1 i + 1) t p []) (kidsT t) w.heap.size va vc R 0 w7 Q' g' L' kv) := by
  refine ⟨setQ Q (i + 1) R, g1, L1.set i (.slice va al vc, .slice none 0 0), .slice none 0 0, ?_, ?_, own_nil _ _ _ _, HAC.out, HA5.out.to (fun _ h => h) (fun b o hb => hb7.cell (p := ⟨b, o, none⟩) (HR5.out b hb).2.1), fun b hb => ?_, (fun b hb => by cases hb), Nat.le_refl _⟩
  ·have := HM5.out.below hb7
   rw [List.take_zero]
   show MG w base Q rb g ra rcap D L (setKI E0 i []) w7 _ _ _
   rw [HE00.out]
   exact this
  ·obtain ⟨c5, hd5⟩ := HM5.out.doc
   have hle := hd5.len
   rw [List.length_set] at hle
   rw [List.getElem?_set_self (by rw [hle]; exact (List.getElem?_eq_some_iff.1 Hq7.out).1), HAL.out]
  ·obtain ⟨x1, x2, x3, x4⟩ := HR5.out b hb
   exact ⟨x1, by omega, x3, x4⟩
 have HSH : Hid (∀ k, lo <= k -> k < hi -> ¬ (k = rb \/ k = g)) := fun k h1 h2 e => by omega
 clear hko' hb7 HM5 HD5 HA5 HR5 HE00 HM1 HIH Hq1 Hq3 HOK HC HOWN HAT HSEED HGEN Hf7 HNL HAC HAL HQN HR4
 generalize mkS (genAt D1 i + 1) t p [] = S0 at *
 generalize kidsT t = LL at *
 go_wp2
 go_loopw [11] (fun iv wr => ∃ (j : Nat), j <= LL.length /\ iv = .int .i64 (j : Int) /\ w7.heap.size <= wr.heap.size /\ Hid (∃ Q' g' L' kv, MS w base Q rb g ra rcap D L n H E0 i S0 LL w.heap.size va vc R j wr Q' g' L' kv)) (fun iv _ => LL.length - (intOf iv).toNat)
 case atStart => exact ⟨0, by omega, rfl, Nat.le_refl _, HST⟩
 case round =>
  obtain ⟨j, hj, rfl, hw7r, hms⟩ := hrel
  clear HST
  by_cases hlt : j < LL.length
  ·obtain ⟨Q', g', L', kv, hms⟩ := hms.out
   obtain ⟨k, hk⟩ : ∃ k, LL[j]? = some k := ⟨_, List.getElem?_eq_getElem hlt⟩
   have hkt' := HKT.out.turn hms.mg.turn hsz HSH.out
   obtain ⟨b, o, kk, nm, a', al', ac', tx', ka2, kl2, kc2, rfl, hb1, hb2, c0, c1, c2, c3, c4, htr⟩ := hkt'.get hk
   have hbr : b < wr.heap.size := by omega
   have hcall := hms.call HMC.out hk htr
   obtain ⟨hh, hhh⟩ : ∃ hh, hh = (growD n k H (growK (growD n) H (LL.take j) E0).1).2 := ⟨_, rfl⟩
   rw [<- hhh] at hcall
   have HHH : Hid (hh = (growD n k H (growK (growD n) H (LL.take j) E0).1).2) := hhh
   have HK : Hid (LL[j]? = some k) := hk
   have HMS : Hid (MS w base Q rb g ra rcap D L n H E0 i S0 LL w.heap.size va vc R j wr Q' g' L' kv) := hms
   clear hkt' htr hk hhh hms
   go_wp2_with fail
   refine hcall.mono ?_
   rintro e w9 ⟨rfl, Q2, g2, L2, hp9⟩
   have HP9 : Hid (MG wr base Q' rb g' ra rcap (setKI (growK (growD n) H (LL.take j) E0).1 i (growK (growD n) H (LL.take j) E0).2) L' (setKI (growK (growD n) H (LL.take (j + 1)) E0).1 i (growK (growD n) H (LL.take j) E0).2) w9 Q2 g2 L2) := hp9
   obtain ⟨k1, k2, k3, k4, k5⟩ := HMS.out.kept HMC.out HK.out hp9
   obtain ⟨kva, kvc, hkve⟩ := own_slice k2
   subst hkve
   obtain ⟨cap2, hd2⟩ := hp9.doc
   have m7 := (HMC.out.mid HK.out).2.2.2.2.2.2
   have hsl2 : (setKI (growK (growD n) H (LL.take (j + 1)) E0).1 i (growK (growD n) H (LL.take j) E0).2).S[i]? = some { S0 with kids := (growK (growD n) H (LL.take j) E0).2 } := by rw [setKI_get m7, if_pos rfl]
   obtain ⟨q2, hq2, -, hcp2, hhd2, hcl2⟩ := hd2.toS.slot hsl2
   rw [k1] at hq2
   cases hq2
   have hx7 : w9.cell? ⟨g2, i * 8 + 7, none⟩ = some (.slice kva j kvc) := (hcl2 7 _ rfl).1
   have hy7 := (hcl2 7 _ rfl).2
   have hg2b := hd2.toS.gb
   have hg2l : g2 < w9.heap.size := hg2b.2
   have hr2l : rb < w9.heap.size := hd2.head.lt
   have hgr3 : ¬ g2 = rb := by have := hd2.rbl; omega
   have hgr4 : ¬ rb = g2 := by omega
   have hix2 : (i : Int) < ((setKI (growK (growD n) H (LL.take (j + 1)) E0).1 i (growK (growD n) H (LL.take j) E0).2).S.length : Int) := by have := (List.getElem?_eq_some_iff.1 hsl2).1; omega
   have hw9 : w.heap.size <= w9.heap.size := by have := hp9.turn.size; omega
   have hw79 : w7.heap.size <= w9.heap.size := by have := hp9.turn.size; omega
   have HOW : Hid (w9.ownsRow w.heap.size 32 1 (.slice kva j kvc) j (hvals (growK (growD n) H (LL.take j) E0).2)) := k2
   have HB3 : Hid (Below w9.heap.size w9 (w9.alloc (.cells #[.int .u64 (hh : Int)] 32)).drew) := (below_new' w9 _).drew
   have HK5 : Hid (∀ b, (Value.slice kva j kvc).ownBlock = some b -> b ≠ g2 /\ b ≠ rb) := fun b hb => ⟨(k5 b hb).1, by have := (own_block_lt k2 b hb).1; omega⟩
   have HNW : Hid (∀ m u, ([.int .u64 (hh : Int)] : List Value)[m]? = some u -> ∃ ad, some (⟨w9.heap.size, 0, none⟩ : Addr) = some ad /\ ((w9.alloc (.cells #[.int .u64 (hh : Int)] 32)).drew).cell? (ad.add m) = some u) := news_new w9 #[.int .u64 (hh : Int)] 32
   have HBS : Hid (w.heap.size <= ((w9.alloc (.cells #[.int .u64 (hh : Int)] 32)).drew).heap.size) := Nat.le_trans hw9 HB3.out.size
   have HHR : Hid (w9.cell? ⟨rb, 0, none⟩ = some (.slice (some ⟨g2, 0, none⟩) (setKI (growK (growD n) H (LL.take (j + 1)) E0).1 i (growK (growD n) H (LL.take j) E0).2).S.length cap2)) := hhd2
   have HX7 : Hid (w9.cell? ⟨g2, i * 8 + 7, none⟩ = some (.slice kva j kvc)) := hx7
   have HY7 : Hid (w9.frozen? ⟨g2, i * 8 + 7, none⟩ = false) := hy7
   generalize (setKI (growK (growD n) H (LL.take (j + 1)) E0).1 i (growK (growD n) H (LL.take j) E0).2).S.length = EL at *
   clear hcall hp9 k1 k2 k3 k4 k5 hd2 m7 hsl2 hcl2 c0 c1 c2 c3 c4 hcp2 hg2b
   go_wp2_with fail
   have tok1 : True := trivial
   go_region_law
      (first
     | (have _t := tok1; refine step_app (by rfl) _ _ (by rfl) Tryz.underlying56 info42 rfl (by decide) w.heap.size (.slice kva j kvc) j (hvals (growK (growD n) H (LL.take j) E0).2) (by rfl) (own_after HOW.out HB3.out) (some ⟨w9.heap.size, 0, none⟩) 1 1 [.int .u64 (hh : Int)] (by rfl) (by rfl) HNW.out (by simp [Value.oneCell']) (by unfold maxLen; omega) (by omega) HBS.out ?_; intro v1 w11 hown1 hg1 _ hat1; obtain ⟨va1, vc1, hv1⟩ := own_slice hown1; subst hv1; have HMS2 : Hid (MS w base Q rb g ra rcap D L n H E0 i S0 LL w.heap.size va vc R (j + 1) (w11.setCell ⟨g2, i * 8 + 7, none⟩ (.slice va1 (j + 1) vc1)) _ g2 _ (.slice va1 (j + 1) vc1)) := (HMS.out.push HMC.out HK.out HP9.out HHH.out HB3.out hg1 hown1 hat1 HSI.out); have hrbk : w11.heap[rb]? = w9.heap[rb]? := ((hg1.block rb (Nat.lt_of_lt_of_le hr2l HB3.out.size) (fun e => (HK5.out rb e.symm).2 rfl)).trans (HB3.out.block rb hr2l)); have hgbk : w11.heap[g2]? = w9.heap[g2]? := ((hg1.block g2 (Nat.lt_of_lt_of_le hg2l HB3.out.size) (fun e => (HK5.out g2 e.symm).1 rfl)).trans (HB3.out.block g2 hg2l)); have hh11 : w11.cell? ⟨rb, 0, none⟩ = some (.slice (some ⟨g2, 0, none⟩) EL cap2) := (World.cell?_of_block (w := w9) (a := ⟨rb, 0, none⟩) hrbk).trans HHR.out; have hx11 : w11.cell? ⟨g2, i * 8 + 7, none⟩ = some (.slice kva j kvc) := (World.cell?_of_block (w := w9) (a := ⟨g2, i * 8 + 7, none⟩) hgbk).trans HX7.out; have hy11 : w11.frozen? ⟨g2, i * 8 + 7, none⟩ = false := (World.frozen?_of_block (w := w9) (a := ⟨g2, i * 8 + 7, none⟩) hgbk).trans HY7.out; have hs11 : w7.heap.size <= w11.heap.size := Nat.le_trans hw79 (Nat.le_trans HB3.out.size hg1.size); clear hown1 hg1 hat1 hrbk hgbk tok1 _t))
   all_goals (go_wp2; refine ⟨⟨j + 1, by omega, by go_num, by simpa [World.setCell] using hs11, ⟨_, _, _, _, HMS2.out⟩⟩, ?_⟩; simp [intOf]; omega)
  ·have hje : j = LL.length := by omega
   subst hje
   obtain ⟨Q', g', L', kv, hms⟩ := hms.out
   have hmg := hms.mg
   rw [List.take_length] at hmg
   have HMG : Hid (MG w base Q rb g ra rcap D L (setKI (growK (growD n) H LL E0).1 i (growK (growD n) H LL E0).2) wr Q' g' L') := hmg
   clear hms hmg HMC HKT
   go_wp2
   go_ret
   exact ⟨rfl, Q', g', L', HMG.out⟩
theorem make_any : ∀ (n : Nat), MakeAll n
 | 0 => fun _ _ _ _ _ _ _ _ _ _ _ _ _ _ _ h => h.elim
 | n + 1 => by
  intro w v t lo hi p base Q rb D g cap ra rcap L h hsz hrb hd hs hc hp hpl hok
  have ih := make_any n
  have hk := (mkS_own (α := T n) (t := t) (g := 0) (p := 0) (ks := []) hok.1).2
  rcases hk with hk | hk
  ·exact make_e n ih w v t lo hi p base Q rb D g cap ra rcap L h hsz hrb hd hs hc hp hpl hok hk
  ·exact make_t n ih w v t lo hi p base Q rb D g cap ra rcap L h hsz hrb hd hs hc hp hpl hok hk
end Go.Proofs.YtmapmkogjhinmaaGreat
