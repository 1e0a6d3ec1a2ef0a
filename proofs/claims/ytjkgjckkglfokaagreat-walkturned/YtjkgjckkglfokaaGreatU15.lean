/- SetAttr of the program. -/
import Derived.Test.YtjkgjckkglfokaaGreatU01
import Derived.Test.YtjkgjckkglfokaaGreatU14
import Derived.Test.YtjkgjckkglfokaaGreatU11
namespace Go.Proofs.YtjkgjckkglfokaaGreat.Gr
open Go.RowKit
set_option linter.unusedVariables false
set_option linter.unusedSimpArgs false
set_option maxRecDepth 100000
set_option maxHeartbeats 2000000
def setAttrL (l : List (ByteArray × ByteArray)) (nm v : ByteArray) : List (ByteArray × ByteArray) := l.take (lowN l nm) ++ [(nm, v)] ++ l.drop (if hasN l nm then lowN l nm + 1 else lowN l nm)
def setAttrD (D : Dc) (h : Nat) (nm v : ByteArray) : Dc × Int :=
 match atI D.S h with
 | none => (D, 8)
 | some i => match D.S[i]? with
  | none => (D, 8)
  | some s => if s.kind = 1 then (if nameL nm.data.toList then (if (tans v.data.toList).2 = 0 then (if hasN s.attrs nm = false /\ 32 <= s.attrs.length then (D, 2) else ({ D with S := D.S.set i { s with attrs := setAttrL s.attrs nm v } }, 0)) else (D, (tans v.data.toList).2)) else (D, 6)) else (D, 30)
theorem set_in {l : List (ByteArray × ByteArray)} {nm v : ByteArray} (h : hasN l nm = true) : ∃ p, l[lowN l nm]? = some p /\ p.1 = nm /\ setAttrL l nm v = l.set (lowN l nm) (p.1, v) := by
 unfold hasN at h
 cases hk : l[lowN l nm]? with
 | none => rw [hk] at h; cases h
 | some p =>
  rw [hk] at h
  have he : p.1 = nm := by simpa using h
  refine ⟨p, rfl, he, ?_⟩
  have hh : hasN l nm = true := by unfold hasN; rw [hk]; simpa using he
  have hlt := (List.getElem?_eq_some_iff.1 hk).1
  unfold setAttrL
  rw [hh, if_pos rfl, List.set_eq_take_append_cons_drop, if_pos hlt, he]
  simp
theorem psetA_any (w : World) (ro : Nat -> Nat) (db : Nat) (D : Dc) (h : Nat) (nm v : ByteArray) (hd : PDoc w ro db D) (hw : WF D) (hh : h < 18446744073709551616) :
  Calls Tryz.prog 160 #[.pointer (some ⟨db, 0, none⟩), .int .u64 (h : Int), .string nm, .string v] w (PPost w ro db (setAttrD D h nm v).1 (setAttrD D h nm v).2) := by
 have hv := hd.view
 have HD := hid hd
 cases ha : atI D.S h with
 | none =>
  have e1 : setAttrD D h nm v = (D, 8) := by simp only [setAttrD, ha]
  rw [e1]
  have hc := findKind_none w _ db D h 1 hv hw.fits hh ha
  clear hd ha e1 hv
  go_enter Tryz.func160, Tryz.ntmps160
  go_wp2_with fail
  refine hc.mono ?_
  rintro e w1 ⟨rfl, hb1⟩
  have HB1 := hid hb1
  clear hb1 hc
  go_wp2
  go_ret
  exact ppost_same HD.out HB1.out
 | some i =>
  obtain ⟨s, hs, -⟩ := atI_some ha
  obtain ⟨g, scap, aa, ac, hat⟩ := att_at hd hs
  have hc := findKind_some w _ db D h i s 1 hv hw.fits hh ha hs g 0 scap hat.hd
  rw [Nat.zero_add] at hc
  by_cases hk : s.kind = 1
  ·rw [if_pos hk] at hc
   obtain ⟨hso, hl32⟩ := hw.sort ha hs hk
   have HAT := hid hat
   have HSO := hid hso
   have hnw := fun W => name_any W nm
   have htx := fun W => text_any W v
   cases hnm : nameL nm.data.toList with
   | false =>
    have e1 : setAttrD D h nm v = (D, 6) := by simp [setAttrD, ha, hs, hk, hnm]
    rw [e1]
    rw [hnm] at hnw
    clear hd hv ha hs hk hat hso hnm htx e1
    go_enter Tryz.func160, Tryz.ntmps160
    go_wp2_with fail
    refine hc.mono ?_
    rintro e w1 ⟨rfl, hb1⟩
    have HB1 := hid hb1
    clear hb1 hc
    go_wp2_with fail
    refine (hnw _).mono ?_
    rintro e w2 ⟨rfl, hb2⟩
    have HB2 := hid (HB1.out.trans (hb2.mono HB1.out.size))
    clear hb2 hnw HB1
    go_wp2
    go_ret
    exact ppost_same HD.out HB2.out
   | true =>
    rw [hnm] at hnw
    by_cases htn : (tans v.data.toList).2 = 0
    ·obtain ⟨k, Hk⟩ : ∃ k, Hid (lowN s.attrs nm = k) := ⟨_, rfl⟩
     have hfa : ∀ W, Below w.heap.size w W -> Calls Tryz.prog 165 #[.slice aa s.attrs.length ac, .string nm] W fun e w' => e = .returned (.tuple #[.int .i64 (k : Int), .bool (hasN s.attrs nm)]) /\ Below W.heap.size W w' := fun W hb => by
      obtain ⟨d1, d2, d3⟩ := HAT.out.below hb
      obtain ⟨xa, xc, e, _, hr⟩ := attrs_row' (R := fun b => b < W.heap.size) d3 (fun b hb' => (own_block_lt d3 b hb').2)
      cases e
      exact findAttr_any W _ aa s.attrs ac nm s.attrs.length k rfl (by omega) hr (fun b hb' => hb') HSO.out Hk.out
     have hkl0 : k <= s.attrs.length := by rw [<- Hk.out]; exact lowN_le _ _
     cases hh2 : hasN s.attrs nm with
     | true =>
      rw [hh2] at hfa
      obtain ⟨p, hp1, hp2, hp3⟩ := set_in (v := v) hh2
      rw [Hk.out] at hp1 hp3
      have e1 : setAttrD D h nm v = ({ D with S := D.S.set i { s with attrs := s.attrs.set k (p.1, v) } }, 0) := by
       rw [<- hp3]
       simp [setAttrD, ha, hs, hk, hnm, htn, hh2]
      rw [e1]
      rw [htn] at htx
      generalize (tans v.data.toList).1 = y1 at *
      have hkl : k < s.attrs.length := (List.getElem?_eq_some_iff.1 hp1).1
      have hk8 : (k : Int) < 32 := by omega
      have hk9 : (k : Int) < (s.attrs.length : Int) := by omega
      have hk10 : (0 : Int) <= (k : Int) := by omega
      have Hp1 := hid hp1
      have hl8 : (s.attrs.length : Int) <= 32 := by omega
      clear hd hv ha hs hk hat hso hnm htn hh2 e1 hp1 hp2 hp3
      go_enter Tryz.func160, Tryz.ntmps160
      go_wp2_with fail
      refine hc.mono ?_
      rintro e w1 ⟨rfl, hb1⟩
      have HB1 := hid hb1
      clear hb1 hc
      go_wp2_with fail
      refine (hnw _).mono ?_
      rintro e w2 ⟨rfl, hb2⟩
      have HB2 := hid (HB1.out.trans (hb2.mono HB1.out.size))
      clear hb2 hnw HB1
      go_wp2_with fail
      refine (htx _).mono ?_
      rintro e w3 ⟨rfl, hb3⟩
      have HB3 := hid (HB2.out.trans (hb3.mono HB2.out.size))
      clear hb3 htx HB2
      obtain ⟨d1, d2, d3⟩ := HAT.out.below HB3.out
      have hf3 := hfa w3 HB3.out
      clear hfa d3 d2
      go_wp2_with fail
      refine hf3.mono ?_
      rintro e w4 ⟨rfl, hb4⟩
      have HB4 := hid (HB3.out.trans (hb4.mono HB3.out.size))
      clear hb4 hf3 d1
      obtain ⟨d1, d2, d3⟩ := HAT.out.below HB4.out
      obtain ⟨hx1, hx2, hx3⟩ := row_cell d3
      obtain ⟨ab, rfl, -, hab, hcv⟩ := hx3 (k * 2 + 1) (.string p.2) (attrCells_get _ _ _ Hp1.out).2
      have hfv : w4.frozen? ⟨ab, k * 2 + 1, none⟩ = false := own_frozen d3 _
      have HFin : Hid (PE w ro db { D with S := D.S.set i { s with attrs := s.attrs.set k (p.1, v) } } (w4.setCell ⟨ab, k * 2 + 1, none⟩ (.string v)) ro) := by
       refine HAT.out.inp _ _ (grown_of HB4.out ⟨rfl, rfl, rfl, by simp [World.setCell], fun j hj hne => Below.heap_setCell _ _ _ _ (fun e => hne (by rw [e]; rfl))⟩) ?_
       have := own_set d3 (k * 2 + 1) (.string v)
       rw [attrCells_set _ _ _ _ Hp1.out]
       simpa using this
      clear d2 d3 hx3
      go_wp2
      go_ret
      exact HFin.out.post
     | false =>
      rw [hh2] at hfa
      rw [htn] at htx
      generalize (tans v.data.toList).1 = y1 at *
      by_cases h32 : 32 <= s.attrs.length
      ·have e1 : setAttrD D h nm v = (D, 2) := by simp [setAttrD, ha, hs, hk, hnm, htn, hh2, h32]
       rw [e1]
       have h32' : (32 : Int) <= (s.attrs.length : Int) := by omega
       have h32n : s.attrs.length <= 1048576 := by omega
       have h32i : (s.attrs.length : Int) <= 1048576 := by omega
       clear hd hv ha hs hk hat hso hnm htn hh2 e1
       go_enter Tryz.func160, Tryz.ntmps160
       go_wp2_with fail
       refine hc.mono ?_
       rintro e w1 ⟨rfl, hb1⟩
       have HB1 := hid hb1
       clear hb1 hc
       go_wp2_with fail
       refine (hnw _).mono ?_
       rintro e w2 ⟨rfl, hb2⟩
       have HB2 := hid (HB1.out.trans (hb2.mono HB1.out.size))
       clear hb2 hnw HB1
       go_wp2_with fail
       refine (htx _).mono ?_
       rintro e w3 ⟨rfl, hb3⟩
       have HB3 := hid (HB2.out.trans (hb3.mono HB2.out.size))
       clear hb3 htx HB2
       obtain ⟨d1, d2, d3⟩ := HAT.out.below HB3.out
       have hf3 := hfa w3 HB3.out
       clear hfa d3 d2
       go_wp2_with fail
       refine hf3.mono ?_
       rintro e w4 ⟨rfl, hb4⟩
       have HB4 := hid (HB3.out.trans (hb4.mono HB3.out.size))
       clear hb4 hf3 d1
       obtain ⟨d1, d2, d3⟩ := HAT.out.below HB4.out
       clear d2 d3
       go_wp2
       go_ret
       exact ppost_same HD.out HB4.out
      ·have e1 : setAttrD D h nm v = ({ D with S := D.S.set i { s with attrs := s.attrs.take k ++ [(nm, v)] ++ s.attrs.drop k } }, 0) := by
        have : setAttrL s.attrs nm v = s.attrs.take k ++ [(nm, v)] ++ s.attrs.drop k := by simp [setAttrL, hh2, Hk.out]
        rw [<- this]
        simp [setAttrD, ha, hs, hk, hnm, htn, hh2, h32]
       rw [e1]
       have h32' : (s.attrs.length : Int) < 32 := by omega
       have hk8 : (k : Int) < 33 := by omega
       clear hd hv ha hs hk hat hso hnm htn hh2 e1
       go_enter Tryz.func160, Tryz.ntmps160
       go_wp2_with fail
       refine hc.mono ?_
       rintro e w1 ⟨rfl, hb1⟩
       have HB1 := hid hb1
       clear hb1 hc
       go_wp2_with fail
       refine (hnw _).mono ?_
       rintro e w2 ⟨rfl, hb2⟩
       have HB2 := hid (HB1.out.trans (hb2.mono HB1.out.size))
       clear hb2 hnw HB1
       go_wp2_with fail
       refine (htx _).mono ?_
       rintro e w3 ⟨rfl, hb3⟩
       have HB3 := hid (HB2.out.trans (hb3.mono HB2.out.size))
       clear hb3 htx HB2
       obtain ⟨d1, d2, d3⟩ := HAT.out.below HB3.out
       have hf3 := hfa w3 HB3.out
       clear hfa d3 d2
       go_wp2_with fail
       refine hf3.mono ?_
       rintro e w4 ⟨rfl, hb4⟩
       have HB4 := hid (HB3.out.trans (hb4.mono HB3.out.size))
       clear hb4 hf3 d1
       obtain ⟨d1, d2, d3⟩ := HAT.out.below HB4.out
       have hgl : g < w4.heap.size := Nat.lt_of_lt_of_le HAT.out.lt HB4.out.size
       have hX : (w4.alloc (.cells #[.string nm, .string v] 124)).heap[w4.heap.size]? = some (.cells [.string nm, .string v].toArray 124 (0, 0)) := heap_alloc_new w4 _
       have hins := A.insert_any (w4.alloc (.cells #[.string nm, .string v] 124)) 0 aa s.attrs.length ac w4.heap.size k (attrCells s.attrs) [.string nm, .string v] (own_of_block d3 (fun k hk => Below.heap_alloc _ _ _ (own_block_lt d3 k hk).2)) hX rfl (by intro u hu; simp at hu; rcases hu with rfl | rfl <;> rfl) (attrCells_one _) (by omega) (Nat.zero_le _) hkl0 (fun e => by have := (own_block_lt d3 _ e).2; omega)
       have HBX : Hid (Below w.heap.size w (w4.alloc (.cells #[.string nm, .string v] 124))) := HB4.out.alloc HB4.out.size _
       have hgn : (Value.slice aa s.attrs.length ac).ownBlock ≠ some g := fun e => (HAT.out.ne g e).1 rfl
       have HFin : Hid (∀ e w5, A.InsP (w4.alloc (.cells #[.string nm, .string v] 124)) 0 (.slice aa s.attrs.length ac) s.attrs.length k (attrCells s.attrs) [.string nm, .string v] e w5 -> ∃ va vc, e = .returned (.slice va (s.attrs.length + 1) vc) /\ w5.cell? ⟨g, i * 8 + 4, none⟩ = some (.slice aa s.attrs.length ac) /\ w5.frozen? ⟨g, i * 8 + 4, none⟩ = false /\
         ∃ ro', PE w ro db { D with S := D.S.set i { s with attrs := s.attrs.take k ++ [(nm, v)] ++ s.attrs.drop k } } (w5.setCell ⟨g, i * 8 + 4, none⟩ (.slice va (s.attrs.length + 1) vc)) ro') := fun e w5 h => by
        obtain ⟨u, he, k1, k2, k3⟩ := h
        obtain ⟨va, vc, rfl⟩ := own_slice k1
        have hbk := k2.block g (by simp; omega) (fun e => hgn e.symm)
        have hlen : (s.attrs.take k ++ [(nm, v)] ++ s.attrs.drop k).length = s.attrs.length + 1 := by simp; omega
        refine ⟨va, vc, he, (World.cell?_of_block (w := w4) (a := ⟨g, i * 8 + 4, none⟩) (hbk.trans (Below.heap_alloc _ _ _ hgl))).trans d1, (World.frozen?_of_block (w := w4) (a := ⟨g, i * 8 + 4, none⟩) (hbk.trans (Below.heap_alloc _ _ _ hgl))).trans d2, ?_⟩
        have := HAT.out.put w5 (s.attrs.take k ++ [(nm, v)] ++ s.attrs.drop k) va vc (grown_of HBX.out k2) (by rw [hlen, attrCells_app, attrCells_app, attrCells_take, attrCells_drop]; exact k1) (fun j hj => by
         have hj' : (Value.slice va (s.attrs.length + 1) vc).ownBlock = some j := by rw [hlen] at hj; exact hj
         rcases k3 with k3 | k3
         ·exact .inl (by rw [<- k3]; exact hj')
         ·rw [k3] at hj'
          cases hj'
          exact .inr (by have := HB4.out.size; simp; omega))
        rw [hlen] at this
        exact this
       clear d2 d3 hX hgn
       go_wp2_with fail
       refine hins.mono ?_
       rintro e w5 h5
       obtain ⟨va, vc, rfl, c5, f5, ro5, p5⟩ := HFin.out e w5 h5
       have HP5 := hid p5
       clear hins h5 p5 HFin d1
       go_wp2
       go_ret
       exact HP5.out.post
    ·have e1 : setAttrD D h nm v = (D, (tans v.data.toList).2) := by simp [setAttrD, ha, hs, hk, hnm, htn]
     rw [e1]
     have hbn : ((tans v.data.toList).2 == 0) = false := beq_eq_false_iff_ne.2 htn
     generalize (tans v.data.toList).1 = y1 at *
     generalize (tans v.data.toList).2 = y2 at *
     clear hd hv ha hs hk hat hso hnm e1
     go_enter Tryz.func160, Tryz.ntmps160
     go_wp2_with fail
     refine hc.mono ?_
     rintro e w1 ⟨rfl, hb1⟩
     have HB1 := hid hb1
     clear hb1 hc
     go_wp2_with fail
     refine (hnw _).mono ?_
     rintro e w2 ⟨rfl, hb2⟩
     have HB2 := hid (HB1.out.trans (hb2.mono HB1.out.size))
     clear hb2 hnw HB1
     go_wp2_with fail
     refine (htx _).mono ?_
     rintro e w3 ⟨rfl, hb3⟩
     have HB3 := hid (HB2.out.trans (hb3.mono HB2.out.size))
     clear hb3 htx HB2
     go_wp2
     go_ret
     exact ppost_same HD.out HB3.out
  ·rw [if_neg hk] at hc
   have e1 : setAttrD D h nm v = (D, 30) := by simp [setAttrD, ha, hs, hk]
   rw [e1]
   clear hd hat hv ha e1 hs hk
   go_enter Tryz.func160, Tryz.ntmps160
   go_wp2_with fail
   refine hc.mono ?_
   rintro e w1 ⟨rfl, hb1⟩
   have HB1 := hid hb1
   clear hb1 hc
   go_wp2
   go_ret
   exact ppost_same HD.out HB1.out
end Go.Proofs.YtjkgjckkglfokaaGreat.Gr
/- What every document keeps, kept: SetAttr, DropAttr. -/
namespace Go.Proofs.YtjkgjckkglfokaaGreat.Gr
open Go.RowKit
set_option linter.unusedVariables false
set_option linter.unusedSimpArgs false
theorem attrsGo_all : ∀ (l : List (ByteArray × ByteArray)) (prev : Option ByteArray), attrsGo prev l = 0 -> ∀ p ∈ l, nameL p.1.data.toList = true /\ (tans p.2.data.toList).2 = 0
 | [], prev, h => fun p hp => by cases hp
 | p :: r, prev, h => by
  unfold attrsGo at h
  split at h
  ·cases h
  ·rename_i hc
   split at h
   ·rename_i ht
    intro q hq
    rcases List.mem_cons.1 hq with rfl | hq
    ·refine ⟨?_, ht⟩
     cases hn : nameL q.1.data.toList with
     | true => rfl
     | false => exact absurd (.inl hn) hc
    ·exact attrsGo_all r _ h q hq
   ·rename_i ht
    exact absurd h ht
theorem attrsGo_of : ∀ (l : List (ByteArray × ByteArray)) (prev : Option ByteArray), (∀ p ∈ l, nameL p.1.data.toList = true /\ (tans p.2.data.toList).2 = 0) -> SortA l -> (∀ q, prev = some q -> ∀ p ∈ l, ltN q p.1) -> attrsGo prev l = 0
 | [], prev, _, _, _ => rfl
 | p :: r, prev, h1, h2, h3 => by
  obtain ⟨s1, s2⟩ := List.pairwise_cons.1 h2
  obtain ⟨n1, n2⟩ := h1 p (List.mem_cons_self ..)
  unfold attrsGo
  rw [if_neg, if_pos n2]
  ·exact attrsGo_of r (some p.1) (fun q hq => h1 q (List.mem_cons_of_mem _ hq)) s2 (fun q hq x hx => by cases hq; exact s1 x hx)
  ·rintro (e | ⟨q, hq, e⟩)
   ·rw [n1] at e; cases e
   ·have := (leB_ltN (a := p.1) (b := q)).2 (h3 q hq p (List.mem_cons_self ..))
    rw [this] at e; cases e
theorem attrsE_iff (l : List (ByteArray × ByteArray)) : attrsE l = 0 ↔ l.length <= 32 /\ SortA l /\ ∀ p ∈ l, nameL p.1.data.toList = true /\ (tans p.2.data.toList).2 = 0 := by
 constructor
 ·intro h
  have h1 := sortA_of h
  refine ⟨h1.2, h1.1, ?_⟩
  unfold attrsE at h
  rw [if_neg (by omega)] at h
  exact attrsGo_all l none h
 ·rintro ⟨h1, h2, h3⟩
  unfold attrsE
  rw [if_neg (by omega)]
  exact attrsGo_of l none h3 h2 (fun q hq => by cases hq)
theorem sortA_setL {l : List (ByteArray × ByteArray)} (h : SortA l) (nm v : ByteArray) : SortA (setAttrL l nm v) := by
 have hcut := fun i p (hp : l[i]? = some p) => low_cut h (nm := nm) hp
 unfold setAttrL
 unfold SortA
 rw [List.pairwise_append, List.pairwise_append]
 have hbefore : ∀ p ∈ l.take (lowN l nm), ltN p.1 nm := fun p hp => by
  obtain ⟨i, hi⟩ := List.getElem?_of_mem hp
  rw [List.getElem?_take] at hi
  split at hi
  ·rename_i hlt
   exact (hcut i p hi).1 hlt
  ·cases hi
 have hafter : ∀ p ∈ l.drop (if hasN l nm then lowN l nm + 1 else lowN l nm), ltN nm p.1 := fun p hp => by
  obtain ⟨j, hj⟩ := List.getElem?_of_mem hp
  rw [List.getElem?_drop] at hj
  have hn : ¬ ltN p.1 nm := fun hlt => by
   have := (hcut _ p hj).2 hlt
   split at this <;> omega
  rcases ltN_tri p.1 nm with h1 | h1 | h1
  ·exact absurd h1 hn
  ·exfalso
   have hidx := has_idx h nm
   cases hh : hasN l nm with
   | true =>
    rw [hh] at hj hidx
    simp only [if_true] at hj hidx
    rw [List.findIdx?_eq_some_iff_getElem] at hidx
    obtain ⟨g1, g2, _⟩ := hidx
    have hjl := (List.getElem?_eq_some_iff.1 hj).1
    have hp2 := (List.pairwise_iff_getElem.1 h) (lowN l nm) (lowN l nm + 1 + j) g1 hjl (by omega)
    rw [(List.getElem?_eq_some_iff.1 hj).2, h1] at hp2
    have g3 : (l[lowN l nm]).1 = nm := by simpa using g2
    rw [g3] at hp2
    exact ltN_irr _ hp2
   | false =>
    rw [hh] at hidx
    simp only [Bool.false_eq_true, if_false] at hidx
    rw [List.findIdx?_eq_none_iff] at hidx
    have := hidx p (List.mem_of_mem_drop hp)
    simp [h1] at this
  ·exact h1
 refine ⟨⟨h.sublist (List.take_sublist _ _), List.pairwise_singleton _ _, fun p hp q hq => ?_⟩, h.sublist (List.drop_sublist _ _), fun p hp q hq => ?_⟩
 ·simp at hq
  subst hq
  exact hbefore p hp
 ·rw [List.mem_append] at hp
  rcases hp with hp | hp
  ·exact ltN_trans (hbefore p hp) (hafter q hq)
  ·simp at hp
   subst hp
   exact hafter q hq
theorem WF.setAttr {D : Dc} (hw : WF D) (h : Nat) (nm v : ByteArray) : WF (setAttrD D h nm v).1 := by
 unfold setAttrD
 split
 ·exact hw
 ·rename_i i ha
  split
  ·exact hw
  ·rename_i s hs
   split
   ·rename_i hk
    split
    ·rename_i hn
     split
     ·rename_i ht
      split
      ·exact hw
      ·rename_i h32
       obtain ⟨s', h1, hlv, _⟩ := atI_some ha
       rw [hs] at h1
       cases h1
       have ho := hw.own i s hs hlv
       have hu := hw.used i s hs hlv
       unfold ownE at ho
       rw [if_pos (by exact hk)] at ho
       split at ho
       ·rename_i hnm
        obtain ⟨g1, g2, g3⟩ := (attrsE_iff s.attrs).1 ho
        refine hw.setS (s' := { s with attrs := setAttrL s.attrs nm v }) hs hlv rfl rfl rfl rfl ?_ ⟨fun h2 => ?_, hu.2⟩
        ·unfold ownE
         rw [if_pos (by exact hk), if_pos (by exact hnm)]
         show attrsE (setAttrL s.attrs nm v) = 0
         rw [attrsE_iff]
         have hlow := lowN_le s.attrs nm
         refine ⟨?_, sortA_setL g2 nm v, fun p hp => ?_⟩
         ·unfold setAttrL
          simp only [List.length_append, List.length_take, List.length_drop, List.length_cons, List.length_nil]
          cases hh : hasN s.attrs nm with
          | true =>
           simp only [if_true]
           have hidx := has_idx g2 nm
           rw [hh, if_pos rfl, List.findIdx?_eq_some_iff_getElem] at hidx
           have := hidx.1
           omega
          | false =>
           have : ¬ 32 <= s.attrs.length := fun h => h32 ⟨hh, h⟩
           simp only [Bool.false_eq_true, if_false]
           omega
         ·unfold setAttrL at hp
          rw [List.mem_append, List.mem_append] at hp
          rcases hp with (hp | hp) | hp
          ·exact g3 p (List.mem_of_mem_take hp)
          ·simp at hp
           subst hp
           exact ⟨hn, ht⟩
          ·exact g3 p (List.mem_of_mem_drop hp)
        ·have h2' : s.kind = 2 := h2
         rw [hk] at h2'
         cases h2'
       ·cases ho
     ·exact hw
    ·exact hw
   ·exact hw
theorem WF.dropAttr {D : Dc} (hw : WF D) (h : Nat) (nm : ByteArray) : WF (dropD D h nm).1 := by
 unfold dropD
 split
 ·exact hw
 ·rename_i i ha
  split
  ·exact hw
  ·rename_i s hs
   split
   ·rename_i hk
    split
    ·rename_i k hidx
     obtain ⟨s', h1, hlv, _⟩ := atI_some ha
     rw [hs] at h1
     cases h1
     have ho := hw.own i s hs hlv
     have hu := hw.used i s hs hlv
     unfold ownE at ho
     rw [if_pos (by exact hk)] at ho
     split at ho
     ·rename_i hnm
      obtain ⟨g1, g2, g3⟩ := (attrsE_iff s.attrs).1 ho
      have hsl : List.Sublist (s.attrs.take k ++ s.attrs.drop (k + 1)) s.attrs := by
       have h1 : List.Sublist (s.attrs.drop (k + 1)) (s.attrs.drop k) := by
        rw [<- List.drop_drop]
        exact List.drop_sublist 1 _
       have h2 := List.Sublist.append (List.Sublist.refl (s.attrs.take k)) h1
       rwa [List.take_append_drop] at h2
      refine hw.setS (s' := { s with attrs := s.attrs.take k ++ s.attrs.drop (k + 1) }) hs hlv rfl rfl rfl rfl ?_ ⟨fun h2 => ?_, hu.2⟩
      ·unfold ownE
       rw [if_pos (by exact hk), if_pos (by exact hnm)]
       show attrsE (s.attrs.take k ++ s.attrs.drop (k + 1)) = 0
       rw [attrsE_iff]
       exact ⟨Nat.le_trans hsl.length_le g1, g2.sublist hsl, fun p hp => g3 p (hsl.subset hp)⟩
      ·have h2' : s.kind = 2 := h2
       rw [hk] at h2'
       cases h2'
     ·cases ho
    ·exact hw
   ·exact hw
end Go.Proofs.YtjkgjckkglfokaaGreat.Gr
/- A tree's nodes made in a document, in plain. -/
namespace Go.Proofs.YtjkgjckkglfokaaGreat.Gr
open Go.RowKit
set_option linter.unusedVariables false
set_option linter.unusedSimpArgs false
def mkS {α : Type} (gen : Nat) (t : Nd α) (p : Nat) (ks : List Nat) : Sl :=
 { gen := gen, live := true, kind := t.kind, name := if t.kind = 2 then ⟨#[]⟩ else t.name, attrs := if t.kind = 2 then [] else t.attrs, text := if t.kind = 2 then t.text else ⟨#[]⟩, parent := p, kids := ks }
def genAt (D : Dc) (i : Nat) : Nat := match D.S[i]? with | some s => s.gen | none => 0
def setKI (D : Dc) (i : Nat) (l : List Nat) : Dc := match D.S[i]? with | some s => setS D i { s with kids := l } | none => D
def growK {α : Type} (f : α -> Nat -> Dc -> Dc × Nat) (h : Nat) : List α -> Dc -> Dc × List Nat
 | [], D => (D, [])
 | k :: r, D => ((growK f h r (f k h D).1).1, (f k h D).2 :: (growK f h r (f k h D).1).2)
def seed {α : Type} (D : Dc) (t : Nd α) (p : Nat) : Dc := setS (freeD D).2 (freeD D).1 (mkS (genAt (freeD D).2 (freeD D).1 + 1) t p [])
def seedH (D : Dc) : Nat := hnd (freeD D).1 (genAt (freeD D).2 (freeD D).1 + 1)
def growD : (n : Nat) -> T n -> Nat -> Dc -> Dc × Nat
 | 0, _, _, D => (D, 0)
 | n + 1, t, p, D => (setKI (growK (growD n) (seedH D) (kidsT t) (seed D t p)).1 (freeD D).1 (growK (growD n) (seedH D) (kidsT t) (seed D t p)).2, seedH D)
structure Sane (D : Dc) : Prop where
 fits : Fits D
 gen1 : ∀ (i : Nat) (s : Sl), D.S[i]? = some s -> 1 <= s.gen
 dead : ∀ (i : Nat) (s : Sl), D.S[i]? = some s -> s.live = false -> s = zeroSl s.gen
 own : ∀ (i : Nat) (s : Sl), D.S[i]? = some s -> s.live = true -> ownE (ndOf s) = 0
 used : ∀ (i : Nat) (s : Sl), D.S[i]? = some s -> s.live = true -> (s.kind = 2 -> s.kids = [] /\ s.name = ⟨#[]⟩ /\ s.attrs = []) /\ (s.kind = 1 -> s.text = ⟨#[]⟩)
theorem WF.sane {D : Dc} (h : WF D) : Sane D := ⟨h.fits, h.gen1, h.dead, h.own, h.used⟩
theorem free_facts {D : Dc} (hs : Sane D) (hc : cnt takenB D.S + 1 <= 4096) :
  (freeD D).1 <= D.S.length /\ (freeD D).2.roots = D.roots /\ (freeD D).1 < (freeD D).2.S.length /\ (freeD D).2.S.length <= 4096 /\ D.S.length <= (freeD D).2.S.length /\ genAt (freeD D).2 (freeD D).1 + 1 < 4294967296 /\
  (∃ s0, (freeD D).2.S[(freeD D).1]? = some s0 /\ s0.live = false /\ s0.gen < 4294967295 /\ s0.gen = genAt (freeD D).2 (freeD D).1) /\ (∀ j, j ≠ (freeD D).1 -> (freeD D).2.S[j]? = D.S[j]?) /\ (∀ s, D.S[(freeD D).1]? = some s -> s.live = false) := by
 unfold freeD
 cases hi : D.S.findIdx? freeB with
 | some i =>
  simp only
  rw [List.findIdx?_eq_some_iff_getElem] at hi
  obtain ⟨h1, h2, _⟩ := hi
  have hg : D.S[i]? = some D.S[i] := List.getElem?_eq_getElem h1
  have hb : D.S[i].live = false /\ D.S[i].gen < 4294967295 := by
   unfold freeB at h2
   simpa using h2
  have hga : genAt D i = D.S[i].gen := by unfold genAt; rw [hg]
  refine ⟨by omega, trivial, h1, hs.fits.len, Nat.le_refl _, by rw [hga]; omega, ⟨D.S[i], hg, hb.1, hb.2, hga.symm⟩, fun _ _ => trivial, fun s h => ?_⟩
  rw [hg] at h
  cases h
  exact hb.1
 | none =>
  simp only
  rw [List.findIdx?_eq_none_iff] at hi
  have hall : cnt takenB D.S = D.S.length := by
   unfold cnt
   rw [List.filter_eq_self.2]
   intro s hm
   have := hi s hm
   obtain ⟨j, hj⟩ := List.getElem?_of_mem hm
   have hg := hs.fits.gen j s hj
   unfold freeB at this
   unfold takenB
   cases hl : s.live with
   | true => rfl
   | false =>
    rw [hl] at this
    simp only [Bool.not_false, Bool.true_and, decide_eq_false_iff_not] at this
    simp only [Bool.false_or, decide_eq_true_eq]
    omega
  have hg : (D.S ++ [zeroSl 0])[D.S.length]? = some (zeroSl 0) := by simp
  have hga : genAt { D with S := D.S ++ [zeroSl 0] } D.S.length = 0 := by unfold genAt; simp only [hg]; rfl
  refine ⟨Nat.le_refl _, trivial, by simp, by simp; omega, by simp, by rw [hga]; omega, ⟨zeroSl 0, hg, rfl, by simp [zeroSl], by rw [hga]; rfl⟩, fun j hj => ?_, fun s h => ?_⟩
  ·by_cases hlt : j < D.S.length
   ·exact List.getElem?_append_left hlt
   ·rw [List.getElem?_eq_none (by simp; omega), List.getElem?_eq_none (by omega)]
  ·rw [List.getElem?_eq_none (Nat.le_refl _)] at h
   cases h
theorem hnd_idx {i g : Nat} (hi : i < 4294967295) : (hnd i g) % 4294967296 = i + 1 /\ (hnd i g) / 4294967296 = g := by
 unfold hnd
 omega
theorem sl_iff {D : Dc} {x : Nat} {s : Sl} : sl D x = some s ↔ x % 4294967296 ≠ 0 /\ D.S[x % 4294967296 - 1]? = some s /\ s.live = true /\ s.gen = x / 4294967296 := by
 unfold sl atI
 by_cases h0 : x % 4294967296 = 0
 ·simp [h0]
 ·simp only [if_neg h0]
  cases h : D.S[x % 4294967296 - 1]? with
  | none => simp
  | some t =>
   simp only
   by_cases hc : t.live = true /\ t.gen = x / 4294967296
   ·rw [if_pos hc]
    simp only [Option.bind_some, h, Option.some.injEq]
    constructor
    ·rintro rfl
     exact ⟨h0, rfl, hc.1, hc.2⟩
    ·rintro ⟨_, e, _, _⟩
     exact e
   ·rw [if_neg hc]
    simp only [Option.bind_none]
    constructor
    ·intro e
     cases e
    ·rintro ⟨_, e, h1, h2⟩
     cases e
     exact absurd ⟨h1, h2⟩ hc
theorem mkS_own {α : Type} {t : Nd α} {g p : Nat} {ks : List Nat} (h : ownE t = 0) : ownE (ndOf (mkS g t p ks)) = 0 /\ (t.kind = 1 \/ t.kind = 2) := by
 unfold ownE at h
 by_cases h1 : t.kind = 1
 ·refine ⟨?_, .inl h1⟩
  rw [if_pos h1] at h
  unfold ownE
  have hk : (ndOf (mkS g t p ks)).kind = 1 := h1
  have h2 : ¬ t.kind = 2 := by omega
  rw [if_pos hk]
  show (if nameL (if t.kind = 2 then (⟨#[]⟩ : ByteArray) else t.name).data.toList then attrsE (if t.kind = 2 then [] else t.attrs) else 6) = 0
  rw [if_neg h2, if_neg h2]
  exact h
 ·rw [if_neg h1] at h
  by_cases h2 : t.kind = 2
  ·refine ⟨?_, .inr h2⟩
   rw [if_pos h2] at h
   unfold ownE
   have hk1 : ¬ (ndOf (mkS g t p ks)).kind = 1 := h1
   have hk2 : (ndOf (mkS g t p ks)).kind = 2 := h2
   rw [if_neg hk1, if_pos hk2]
   show (tans (if t.kind = 2 then t.text else (⟨#[]⟩ : ByteArray)).data.toList).2 = 0
   rw [if_pos h2]
   exact h
  ·rw [if_neg h2] at h
   cases h
theorem seed_facts {α : Type} {D : Dc} (hs : Sane D) (hc : cnt takenB D.S + 1 <= 4096) (t : Nd α) (p : Nat) (ho : ownE t = 0) :
  Sane (seed D t p) /\ (seed D t p).roots = D.roots /\ cnt takenB (seed D t p).S = cnt takenB D.S + 1 /\ cnt Sl.live (seed D t p).S = cnt Sl.live D.S + 1 /\ sl D (seedH D) = none /\
  atI (seed D t p).S (seedH D) = some (freeD D).1 /\ (seed D t p).S[(freeD D).1]? = some (mkS (genAt (freeD D).2 (freeD D).1 + 1) t p []) /\ (∀ y, y ≠ seedH D -> sl (seed D t p) y = sl D y) /\ seedH D ≠ 0 /\ seedH D < 18446744073709551616 := by
 obtain ⟨f1, f2, f3, f4, f5, f6, ⟨s0, f7, f8, f9, f10⟩, f11, f12⟩ := free_facts hs hc
 have hget : (seed D t p).S[(freeD D).1]? = some (mkS (genAt (freeD D).2 (freeD D).1 + 1) t p []) := List.getElem?_set_self f3
 have hoth : ∀ j, j ≠ (freeD D).1 -> (seed D t p).S[j]? = D.S[j]? := fun j hj => by
  show ((freeD D).2.S.set (freeD D).1 _)[j]? = _
  rw [List.getElem?_set_ne (Ne.symm hj), f11 j hj]
 obtain ⟨o1, o2⟩ := mkS_own (g := genAt (freeD D).2 (freeD D).1 + 1) (p := p) (ks := []) ho
 have hil : (freeD D).1 < 4294967295 := by omega
 obtain ⟨e1, e2⟩ := hnd_idx (i := (freeD D).1) (g := genAt (freeD D).2 (freeD D).1 + 1) hil
 have hcntD : ∀ f : Sl -> Bool, f (zeroSl 0) = false -> cnt f (freeD D).2.S = cnt f D.S := fun f hf => by
  unfold freeD
  cases hi : D.S.findIdx? freeB with
  | some i => rfl
  | none => simp [cnt, List.filter_append, hf]
 have hcset : ∀ f : Sl -> Bool, f s0 = false -> f (mkS (genAt (freeD D).2 (freeD D).1 + 1) t p []) = true -> cnt f (seed D t p).S = cnt f (freeD D).2.S + 1 := fun f h1 h2 => by
  unfold cnt
  have hsp : (freeD D).2.S = (freeD D).2.S.take (freeD D).1 ++ s0 :: (freeD D).2.S.drop ((freeD D).1 + 1) := by
   rw [<- (List.getElem?_eq_some_iff.1 f7).2, <- List.drop_eq_getElem_cons f3, List.take_append_drop]
  have hst : (seed D t p).S = (freeD D).2.S.take (freeD D).1 ++ mkS (genAt (freeD D).2 (freeD D).1 + 1) t p [] :: (freeD D).2.S.drop ((freeD D).1 + 1) := by
   show (freeD D).2.S.set (freeD D).1 _ = _
   rw [List.set_eq_take_append_cons_drop, if_pos f3]
  rw [hst]
  conv => rhs; rw [hsp]
  rw [List.filter_append, List.filter_append, List.filter_cons, List.filter_cons, if_pos h2, if_neg (by simp [h1])]
  simp
  omega
 have hall : ∀ (j : Nat) (s : Sl), (seed D t p).S[j]? = some s -> (j = (freeD D).1 /\ s = mkS (genAt (freeD D).2 (freeD D).1 + 1) t p []) \/ (j ≠ (freeD D).1 /\ D.S[j]? = some s) := fun j s h => by
  by_cases e : j = (freeD D).1
  ·left
   rw [e, hget] at h
   cases h
   exact ⟨e, rfl⟩
  ·right
   rw [hoth j e] at h
   exact ⟨e, h⟩
 refine ⟨⟨⟨?_, fun j s h => ?_⟩, fun j s h => ?_, fun j s h hd => ?_, fun j s h hl => ?_, fun j s h hl => ?_⟩, f2, ?_, ?_, ?_, ?_, hget, fun y hy => ?_, ?_, ?_⟩
 ·show ((freeD D).2.S.set (freeD D).1 _).length <= 4096
  simpa using f4
 ·rcases hall j s h with ⟨_, rfl⟩ | ⟨_, h1⟩
  ·exact f6
  ·exact hs.fits.gen j s h1
 ·rcases hall j s h with ⟨_, rfl⟩ | ⟨_, h1⟩
  ·show 1 <= genAt (freeD D).2 (freeD D).1 + 1
   omega
  ·exact hs.gen1 j s h1
 ·rcases hall j s h with ⟨_, rfl⟩ | ⟨_, h1⟩
  ·cases hd
  ·exact hs.dead j s h1 hd
 ·rcases hall j s h with ⟨_, rfl⟩ | ⟨_, h1⟩
  ·exact o1
  ·exact hs.own j s h1 hl
 ·rcases hall j s h with ⟨_, rfl⟩ | ⟨_, h1⟩
  ·refine ⟨fun hk => ?_, fun hk => ?_⟩
   ·have hk' : t.kind = 2 := hk
    exact ⟨rfl, by show (if t.kind = 2 then _ else _) = _; rw [if_pos hk'], by show (if t.kind = 2 then _ else _) = _; rw [if_pos hk']⟩
   ·have hk' : t.kind = 1 := hk
    show (if t.kind = 2 then _ else _) = _
    rw [if_neg (by omega)]
  ·exact hs.used j s h1 hl
 ·rw [hcset takenB (by unfold takenB; rw [f8]; simp; omega) (by simp [takenB, mkS]), hcntD takenB (by simp [takenB, zeroSl])]
 ·rw [hcset Sl.live f8 rfl, hcntD Sl.live rfl]
 ·cases h : sl D (seedH D) with
  | none => rfl
  | some s =>
   obtain ⟨_, h2, h3, _⟩ := sl_iff.1 h
   unfold seedH at h2
   rw [e1] at h2
   simp only [Nat.add_sub_cancel] at h2
   rw [f12 s h2] at h3
   cases h3
 ·have := atI_hnd (S := (seed D t p).S) hget rfl hil
  exact this
 ·cases h : sl D y with
  | some s =>
   obtain ⟨h1, h2, h3, h4⟩ := sl_iff.1 h
   rw [sl_iff]
   refine ⟨h1, ?_, h3, h4⟩
   rw [hoth _ (fun e => ?_)]
   ·exact h2
   ·rw [e] at h2
    rw [f12 s h2] at h3
    cases h3
  | none =>
   cases h2 : sl (seed D t p) y with
   | none => rfl
   | some s =>
    exfalso
    obtain ⟨k1, k2, k3, k4⟩ := sl_iff.1 h2
    rcases hall _ s k2 with ⟨e, rfl⟩ | ⟨e, k5⟩
    ·apply hy
     unfold seedH hnd
     have k4' : genAt (freeD D).2 (freeD D).1 + 1 = y / 4294967296 := k4
     rw [k4']
     omega
    ·have := sl_iff.2 ⟨k1, k5, k3, k4⟩
     rw [h] at this
     cases this
 ·unfold seedH hnd
  omega
 ·unfold seedH hnd
  omega
end Go.Proofs.YtjkgjckkglfokaaGreat.Gr
/- Trees made in a document, in plain: what is new, what stays. -/
namespace Go.Proofs.YtjkgjckkglfokaaGreat.Gr
open Go.RowKit
set_option linter.unusedVariables false
set_option linter.unusedSimpArgs false
structure Grown (D E : Dc) (p : Nat) (N hs : List Nat) (k ht : Nat) : Prop where
 sane : Sane E
 roots : E.roots = D.roots
 tk : cnt takenB E.S = cnt takenB D.S + k
 cl : cnt Sl.live E.S = cnt Sl.live D.S + k
 new : ∀ x ∈ N, sl D x = none /\ x ≠ 0
 old : ∀ y, y ∉ N -> sl E y = sl D y
 sub : ∀ x ∈ hs, x ∈ N
 nod : hs.Nodup
 kids : ∀ x ∈ N, ∃ s, sl E x = some s /\ s.kids.Nodup /\ ∀ y ∈ s.kids, y ∈ N /\ y ∉ hs /\ ∃ t, sl E y = some t /\ t.parent = x
 par : ∀ x ∈ N, ∃ s, sl E x = some s /\ ((x ∈ hs /\ s.parent = p) \/ (x ∉ hs /\ s.parent ∈ N /\ ∃ q, sl E s.parent = some q /\ x ∈ q.kids))
 lev : ∃ lv : Nat -> Nat, ∀ x ∈ N, lv x + 1 <= ht /\ ∀ s, sl E x = some s -> (x ∈ hs -> lv x = 0) /\ (x ∉ hs -> lv x = lv s.parent + 1)
theorem Grown.none {D : Dc} (hs : Sane D) (p : Nat) : Grown D D p [] [] 0 0 :=
 ⟨hs, rfl, rfl, rfl, (fun x h => by cases h), (fun _ _ => rfl), (fun x h => by cases h), .nil, (fun x h => by cases h), (fun x h => by cases h), ⟨fun _ => 0, fun x h => by cases h⟩⟩
theorem Grown.cons {D D1 E : Dc} {p h : Nat} {N1 N2 hs : List Nat} {k1 k2 t1 t2 : Nat} (a : Grown D D1 p N1 [h] k1 t1) (b : Grown D1 E p N2 hs k2 t2) : Grown D E p (N1 ++ N2) (h :: hs) (k1 + k2) (max t1 t2) := by
 have dis : ∀ x ∈ N1, x ∉ N2 := fun x h1 h2 => by
  obtain ⟨s, h3, _⟩ := a.kids x h1
  rw [(b.new x h2).1] at h3
  cases h3
 have hh : h ∈ N1 := a.sub h (by simp)
 have e1 : ∀ x ∈ N1, sl E x = sl D1 x := fun x hx => b.old x (dis x hx)
 have hn : ∀ x ∈ N1, (x ∈ h :: hs ↔ x ∈ [h]) := fun x hx => by
  simp only [List.mem_cons, List.not_mem_nil, or_false]
  exact ⟨fun e => e.resolve_right (fun e2 => dis x hx (b.sub x e2)), .inl⟩
 have hn2 : ∀ x ∈ N2, (x ∈ h :: hs ↔ x ∈ hs) := fun x hx => by
  simp only [List.mem_cons]
  exact ⟨fun e => e.resolve_left (fun e2 => dis x (e2 ▸ hh) hx), .inr⟩
 obtain ⟨lv1, l1⟩ := a.lev
 obtain ⟨lv2, l2⟩ := b.lev
 refine ⟨b.sane, b.roots.trans a.roots, by rw [b.tk, a.tk]; omega, by rw [b.cl, a.cl]; omega, fun x hx => ?_, fun y hy => ?_, fun x hx => ?_, ?_, fun x hx => ?_, fun x hx => ?_, fun x => if x ∈ N1 then lv1 x else lv2 x, fun x hx => ?_⟩
 ·rcases List.mem_append.1 hx with h1 | h1
  ·exact a.new x h1
  ·have := b.new x h1
   refine ⟨?_, this.2⟩
   rw [<- a.old x (fun h2 => dis x h2 h1)]
   exact this.1
 ·simp only [List.mem_append, not_or] at hy
  rw [b.old y hy.2, a.old y hy.1]
 ·rcases List.mem_cons.1 hx with rfl | h1
  ·exact List.mem_append_left _ hh
  ·exact List.mem_append_right _ (b.sub x h1)
 ·exact List.nodup_cons.2 ⟨fun e => dis h hh (b.sub h e), b.nod⟩
 ·rcases List.mem_append.1 hx with h1 | h1
  ·obtain ⟨s, h2, h3, h4⟩ := a.kids x h1
   refine ⟨s, by rw [e1 x h1]; exact h2, h3, fun y hy => ?_⟩
   obtain ⟨g1, g2, t, g3, g4⟩ := h4 y hy
   exact ⟨List.mem_append_left _ g1, fun e => g2 ((hn y g1).1 e), t, by rw [e1 y g1]; exact g3, g4⟩
  ·obtain ⟨s, h2, h3, h4⟩ := b.kids x h1
   refine ⟨s, h2, h3, fun y hy => ?_⟩
   obtain ⟨g1, g2, g3⟩ := h4 y hy
   exact ⟨List.mem_append_right _ g1, fun e => g2 ((hn2 y g1).1 e), g3⟩
 ·rcases List.mem_append.1 hx with h1 | h1
  ·obtain ⟨s, h2, h3⟩ := a.par x h1
   refine ⟨s, by rw [e1 x h1]; exact h2, ?_⟩
   rcases h3 with ⟨g1, g2⟩ | ⟨g1, g2, q, g3, g4⟩
   ·exact .inl ⟨(hn x h1).2 g1, g2⟩
   ·exact .inr ⟨fun e => g1 ((hn x h1).1 e), List.mem_append_left _ g2, q, by rw [e1 _ g2]; exact g3, g4⟩
  ·obtain ⟨s, h2, h3⟩ := b.par x h1
   refine ⟨s, h2, ?_⟩
   rcases h3 with ⟨g1, g2⟩ | ⟨g1, g2, q, g3, g4⟩
   ·exact .inl ⟨(hn2 x h1).2 g1, g2⟩
   ·exact .inr ⟨fun e => g1 ((hn2 x h1).1 e), List.mem_append_right _ g2, q, g3, g4⟩
 ·rcases List.mem_append.1 hx with h1 | h1
  ·obtain ⟨g1, g2⟩ := l1 x h1
   simp only [if_pos h1]
   refine ⟨by omega, fun s hs1 => ?_⟩
   rw [e1 x h1] at hs1
   refine ⟨fun e => (g2 s hs1).1 ((hn x h1).1 e), fun e => ?_⟩
   obtain ⟨s', h2, h3⟩ := a.par x h1
   rw [hs1] at h2
   cases h2
   have e' : x ∉ [h] := fun e3 => e ((hn x h1).2 e3)
   rcases h3 with ⟨g3, _⟩ | ⟨_, g4, _⟩
   ·exact absurd g3 e'
   ·rw [if_pos g4]
    exact (g2 s hs1).2 e'
  ·have hx1 : x ∉ N1 := fun e => dis x e h1
   obtain ⟨g1, g2⟩ := l2 x h1
   simp only [if_neg hx1]
   refine ⟨by omega, fun s hs1 => ?_⟩
   refine ⟨fun e => (g2 s hs1).1 ((hn2 x h1).1 e), fun e => ?_⟩
   obtain ⟨s', h2, h3⟩ := b.par x h1
   rw [hs1] at h2
   cases h2
   have e' : x ∉ hs := fun e3 => e ((hn2 x h1).2 e3)
   rcases h3 with ⟨g3, _⟩ | ⟨_, g4, _⟩
   ·exact absurd g3 e'
   ·rw [if_neg (fun e4 => dis _ e4 g4)]
    exact (g2 s hs1).2 e'
theorem setKI_some {D : Dc} {i : Nat} {s : Sl} (h : D.S[i]? = some s) (l : List Nat) : setKI D i l = setS D i { s with kids := l } := by
 unfold setKI
 rw [h]
theorem sane_setKI {D : Dc} (hs : Sane D) {i : Nat} {s : Sl} (h : D.S[i]? = some s) (hl : s.live = true) {l : List Nat} (hk : s.kind = 2 -> l = []) : Sane (setKI D i l) := by
 rw [setKI_some h]
 have hi := (List.getElem?_eq_some_iff.1 h).1
 have hall : ∀ (j : Nat) (t : Sl), (setS D i { s with kids := l }).S[j]? = some t -> (j = i /\ t = { s with kids := l }) \/ (j ≠ i /\ D.S[j]? = some t) := fun j t ht => by
  by_cases e : j = i
  ·left
   have : (D.S.set i { s with kids := l })[j]? = some t := ht
   rw [e, List.getElem?_set_self hi] at this
   cases this
   exact ⟨e, rfl⟩
  ·right
   have : (D.S.set i { s with kids := l })[j]? = some t := ht
   rw [List.getElem?_set_ne (Ne.symm e)] at this
   exact ⟨e, this⟩
 refine ⟨⟨?_, fun j t ht => ?_⟩, fun j t ht => ?_, fun j t ht hd => ?_, fun j t ht hv => ?_, fun j t ht hv => ?_⟩
 ·show (D.S.set i _).length <= 4096
  simpa using hs.fits.len
 ·rcases hall j t ht with ⟨_, rfl⟩ | ⟨_, h1⟩
  ·exact hs.fits.gen i s h
  ·exact hs.fits.gen j t h1
 ·rcases hall j t ht with ⟨_, rfl⟩ | ⟨_, h1⟩
  ·exact hs.gen1 i s h
  ·exact hs.gen1 j t h1
 ·rcases hall j t ht with ⟨_, rfl⟩ | ⟨_, h1⟩
  ·have hd' : s.live = false := hd
   rw [hl] at hd'
   cases hd'
  ·exact hs.dead j t h1 hd
 ·rcases hall j t ht with ⟨_, rfl⟩ | ⟨_, h1⟩
  ·exact hs.own i s h hl
  ·exact hs.own j t h1 hv
 ·rcases hall j t ht with ⟨_, rfl⟩ | ⟨_, h1⟩
  ·obtain ⟨u1, u2⟩ := hs.used i s h hl
   exact ⟨fun e => ⟨hk e, (u1 e).2⟩, u2⟩
  ·exact hs.used j t h1 hv
theorem Grown.node {α : Type} {D E : Dc} (hs : Sane D) (hc : cnt takenB D.S + 1 <= 4096) (t : Nd α) (p : Nat) (hp : p = 0 \/ ∃ q, sl D p = some q) (ho : ownE t = 0) {N hk : List Nat} {k ht : Nat} (g : Grown (seed D t p) E (seedH D) N hk k ht) (hk2 : t.kind = 2 -> hk = []) :
  Grown D (setKI E (freeD D).1 hk) p (seedH D :: N) [seedH D] (k + 1) (ht + 1) /\ sl E (seedH D) = some (mkS (genAt (freeD D).2 (freeD D).1 + 1) t p []) /\ atI E.S (seedH D) = some (freeD D).1 /\ E.S[(freeD D).1]? = some (mkS (genAt (freeD D).2 (freeD D).1 + 1) t p []) := by
 obtain ⟨s1, s2, s3, s4, s5, s6, s7, s8, s9, s10⟩ := seed_facts hs hc t p ho
 have hsl : sl (seed D t p) (seedH D) = some (mkS (genAt (freeD D).2 (freeD D).1 + 1) t p []) := by unfold sl; rw [s6]; exact s7
 have hN : seedH D ∉ N := fun e => by
  have := (g.new _ e).1
  rw [hsl] at this
  cases this
 have hslE : sl E (seedH D) = some (mkS (genAt (freeD D).2 (freeD D).1 + 1) t p []) := by rw [g.old _ hN]; exact hsl
 obtain ⟨i, ha, hi, hlv, hhnd⟩ := sl_live hslE
 have hii : i = (freeD D).1 := by
  have f := free_facts hs hc
  have hil : (freeD D).1 < 4294967295 := by omega
  have hlen := g.sane.fits.len
  have hi' := (List.getElem?_eq_some_iff.1 hi).1
  have e1 := (hnd_idx (i := (freeD D).1) (g := genAt (freeD D).2 (freeD D).1 + 1) hil).1
  have e2 := (hnd_idx (i := i) (g := (mkS (genAt (freeD D).2 (freeD D).1 + 1) t p []).gen) (by omega)).1
  rw [<- hhnd] at e2
  unfold seedH at e2
  omega
 rw [hii] at ha hi
 refine ⟨?_, hslE, ha, hi⟩
 have hpn : p ≠ seedH D := fun e => by
  rcases hp with h0 | ⟨q, hq⟩
  ·exact s9 (e ▸ h0)
  ·rw [e, s5] at hq
   cases hq
 have hset := setKI_some hi hk
 have hsl' : ∀ x, sl (setKI E (freeD D).1 hk) x = if x = seedH D then some (mkS (genAt (freeD D).2 (freeD D).1 + 1) t p hk) else sl E x := fun x => by
  have hh := sl_setS (s' := mkS (genAt (freeD D).2 (freeD D).1 + 1) t p hk) hi rfl rfl x
  have he : setKI E (freeD D).1 hk = setS E (freeD D).1 (mkS (genAt (freeD D).2 (freeD D).1 + 1) t p hk) := hset
  rw [he, hh]
  by_cases e : x = seedH D
  ·rw [if_pos e, e, if_pos ha]
  ·rw [if_neg e, if_neg (fun e2 => e (at_same ha e2))]
 obtain ⟨lv, hl⟩ := g.lev
 refine ⟨sane_setKI g.sane hi hlv hk2, ?_, ?_, ?_, fun x hx => ?_, fun y hy => ?_, fun x hx => ?_, by simp, fun x hx => ?_, fun x hx => ?_, fun x => if x = seedH D then 0 else lv x + 1, fun x hx => ?_⟩
 ·rw [hset]
  show E.roots = _
  rw [g.roots, s2]
 ·rw [hset]
  show cnt takenB (E.S.set _ _) = _
  rw [cnt_set hi (by rfl), g.tk, s3]
  omega
 ·rw [hset]
  show cnt Sl.live (E.S.set _ _) = _
  rw [cnt_set hi (by rfl), g.cl, s4]
  omega
 ·rcases List.mem_cons.1 hx with rfl | h1
  ·exact ⟨s5, s9⟩
  ·have := g.new x h1
   refine ⟨?_, this.2⟩
   rw [<- s8 x (fun e => hN (e ▸ h1))]
   exact this.1
 ·simp only [List.mem_cons, not_or] at hy
  rw [hsl', if_neg hy.1, g.old y hy.2, s8 y hy.1]
 ·simp only [List.mem_singleton] at hx
  simp [hx]
 ·by_cases e : x = seedH D
  ·refine ⟨_, by rw [hsl', if_pos e], g.nod, fun y hy => ?_⟩
   have hy' : y ∈ hk := hy
   have hyN := g.sub y hy'
   have hyne : y ≠ seedH D := fun e => hN (e ▸ hyN)
   obtain ⟨s, h1, h2⟩ := g.par y hyN
   refine ⟨List.mem_cons_of_mem _ hyN, by simpa using hyne, s, by rw [hsl', if_neg hyne]; exact h1, ?_⟩
   rcases h2 with ⟨_, h3⟩ | ⟨h3, _⟩
   ·rw [h3, e]
   ·exact absurd hy' h3
  ·have hxN : x ∈ N := (List.mem_cons.1 hx).resolve_left e
   obtain ⟨s, h1, h2, h3⟩ := g.kids x hxN
   refine ⟨s, by rw [hsl', if_neg e]; exact h1, h2, fun y hy => ?_⟩
   obtain ⟨g1, g2, t', g3, g4⟩ := h3 y hy
   have hyne : y ≠ seedH D := fun e => hN (e ▸ g1)
   exact ⟨List.mem_cons_of_mem _ g1, by simpa using hyne, t', by rw [hsl', if_neg hyne]; exact g3, g4⟩
 ·by_cases e : x = seedH D
  ·exact ⟨_, by rw [hsl', if_pos e], .inl ⟨by simpa using e, rfl⟩⟩
  ·have hxN : x ∈ N := (List.mem_cons.1 hx).resolve_left e
   obtain ⟨s, h1, h2⟩ := g.par x hxN
   refine ⟨s, by rw [hsl', if_neg e]; exact h1, .inr ⟨by simpa using e, ?_⟩⟩
   rcases h2 with ⟨h3, h4⟩ | ⟨h3, h4, q, h5, h6⟩
   ·exact ⟨by rw [h4]; simp, _, by rw [hsl', if_pos h4], h3⟩
   ·exact ⟨List.mem_cons_of_mem _ h4, q, by rw [hsl', if_neg (fun (e2 : s.parent = seedH D) => hN (e2 ▸ h4))]; exact h5, h6⟩
 ·by_cases e : x = seedH D
  ·simp only [if_pos e]
   exact ⟨by omega, fun s _ => ⟨fun _ => trivial, fun e2 => absurd (by simpa using e) e2⟩⟩
  ·have hxN : x ∈ N := (List.mem_cons.1 hx).resolve_left e
   simp only [if_neg e]
   obtain ⟨g1, g2⟩ := hl x hxN
   refine ⟨by omega, fun s hs1 => ⟨fun e2 => absurd (by simpa using e2) e, fun _ => ?_⟩⟩
   rw [hsl', if_neg e] at hs1
   obtain ⟨s', h1, h2⟩ := g.par x hxN
   rw [hs1] at h1
   cases h1
   rcases h2 with ⟨h3, h4⟩ | ⟨h3, h4, _⟩
   ·rw [if_pos h4, (g2 s hs1).1 h3]
   ·rw [if_neg (fun (e2 : s.parent = seedH D) => hN (e2 ▸ h4)), (g2 s hs1).2 h3]
theorem foldl_max_cons (a : Nat) (l : List Nat) : (a :: l).foldl max 0 = max a (l.foldl max 0) := by
 have hm : ∀ (l : List Nat) (x y : Nat), l.foldl max (max x y) = max x (l.foldl max y) := fun l => by
  induction l with
  | nil => intro x y; rfl
  | cons z r ih =>
   intro x y
   simp only [List.foldl_cons]
   rw [Nat.max_assoc, ih]
 have := hm l a 0
 simpa [Nat.max_comm] using this
theorem grow_spec : ∀ (n : Nat) (t : T n) (p : Nat) (D : Dc), Sane D -> cnt takenB D.S + ndT n t <= 4096 -> (p = 0 \/ ∃ q, sl D p = some q) -> okT n t ->
  ∃ N, Grown D (growD n t p D).1 p N [(growD n t p D).2] (ndT n t) (htT n t) := by
 intro n
 induction n with
 | zero => intro t; cases t
 | succ n ih =>
  intro t p D hs hc hp hok
  have hlist : ∀ (l : List (T n)) (h : Nat) (D : Dc), Sane D -> cnt takenB D.S + (l.map (ndT n)).sum <= 4096 -> (h = 0 \/ ∃ q, sl D h = some q) -> (∀ k ∈ l, okT n k) ->
    ∃ N, Grown D (growK (growD n) h l D).1 h N (growK (growD n) h l D).2 (l.map (ndT n)).sum ((l.map (htT n)).foldl max 0) := by
   intro l
   induction l with
   | nil =>
    intro h D hs _ _ _
    exact ⟨[], Grown.none hs h⟩
   | cons k r ihl =>
    intro h D hs hc hh hk
    simp only [List.map_cons, List.sum_cons] at hc
    obtain ⟨N1, g1⟩ := ih k h D hs (by omega) hh (hk k (by simp))
    have hh1 : h = 0 \/ ∃ q, sl (growD n k h D).1 h = some q := hh.imp id (fun ⟨q, hq⟩ => ⟨q, by
     rw [g1.old h (fun e => ?_)]
     ·exact hq
     ·have := (g1.new h e).1
      rw [hq] at this
      cases this⟩)
    obtain ⟨N2, g2⟩ := ihl h (growD n k h D).1 g1.sane (by rw [g1.tk]; omega) hh1 (fun x hx => hk x (by simp [hx]))
    refine ⟨N1 ++ N2, ?_⟩
    have := g1.cons g2
    rw [List.map_cons, List.sum_cons, List.map_cons, foldl_max_cons]
    exact this
  have hnd : ndT (n + 1) t = ((kidsT t).map (ndT n)).sum + 1 := rfl
  rw [hnd] at hc
  obtain ⟨ho, hks⟩ := hok
  obtain ⟨s1, s2, s3, s4, s5, s6, s7, s8, s9, s10⟩ := seed_facts hs (by omega) t p ho
  have hsl : sl (seed D t p) (seedH D) = some (mkS (genAt (freeD D).2 (freeD D).1 + 1) t p []) := by unfold sl; rw [s6]; exact s7
  obtain ⟨N, g⟩ := hlist (kidsT t) (seedH D) (seed D t p) s1 (by rw [s3]; omega) (.inr ⟨_, hsl⟩) hks
  refine ⟨seedH D :: N, (Grown.node hs (by omega) t p hp ho g (fun h2 => ?_)).1⟩
  have : kidsT t = [] := by unfold kidsT; rw [if_neg (by omega)]
  rw [this]
  rfl
end Go.Proofs.YtjkgjckkglfokaaGreat.Gr
/- A tree put in: what every document keeps. -/
namespace Go.Proofs.YtjkgjckkglfokaaGreat.Gr
open Go.RowKit
set_option linter.unusedVariables false
set_option linter.unusedSimpArgs false
theorem Grown.notin {D E : Dc} {p : Nat} {N hs : List Nat} {k ht q : Nat} (g : Grown D E p N hs k ht) (hq : q = 0 \/ ∃ s, sl D q = some s) : q ∉ N := fun e => by
 obtain ⟨h1, h2⟩ := g.new q e
 rcases hq with h0 | ⟨s, hs⟩
 ·exact h2 h0
 ·rw [h1] at hs
  cases hs
theorem Grown.lst_old {D E : Dc} {p : Nat} {N hs : List Nat} {k ht q : Nat} (g : Grown D E p N hs k ht) (hq : q ∉ N) : lst E q = lst D q := by
 unfold lst
 by_cases h0 : q = 0
 ·rw [if_pos h0, if_pos h0, g.roots]
 ·rw [if_neg h0, if_neg h0, g.old q hq]
theorem lst_of {D : Dc} {q : Nat} {s : Sl} (h : sl D q = some s) : lst D q = s.kids := by
 have h0 : q ≠ 0 := by rintro rfl; rw [sl_zero] at h; cases h
 unfold lst
 rw [if_neg h0, h]
theorem WF.ins {D E : Dc} (hw : WF D) {p k h m ht : Nat} {N : List Nat} (g : Grown D E p N [h] m ht) (hp : p = 0 \/ ∃ q, sl D p = some q) (hkd : ∀ q, sl D p = some q -> q.kind ≠ 2) (hht : (ups D p).length + ht <= 64) :
  WF (setL E p (ins (lst E p) k h)) := by
 obtain ⟨lv, hl⟩ := hw.lev
 obtain ⟨lvN, hlN⟩ := g.lev
 have hpN := g.notin hp
 have hhN : h ∈ N := g.sub h (by simp)
 rw [g.lst_old hpN]
 have hne : h ∉ lst D p := fun e => by
  obtain ⟨s, h1, _⟩ := hw.down p hp h e
  rw [(g.new h hhN).1] at h1
  cases h1
 obtain ⟨hins, hind⟩ := ins_facts (k := k) (hw.nodup p) hne
 generalize hl2 : Go.Proofs.YtjkgjckkglfokaaGreat.Gr.ins (lst D p) k h = l2 at *
 have hpE : p = 0 \/ ∃ q, sl E p = some q := hp.imp id (fun ⟨q, hq⟩ => ⟨q, by rw [g.old p hpN]; exact hq⟩)
 have hlF : ∀ q, lst (setL E p l2) q = if q = p then l2 else lst E q := fun q => by
  by_cases e : q = p
  ·rw [if_pos e, e, lst_setL_eq hpE]
  ·rw [if_neg e, lst_setL_ne e]
 have hslN : ∀ x ∈ N, sl (setL E p l2) x = sl E x := fun x hx => sl_setL_ne (fun e => hpN (e ▸ hx))
 have hfrom : ∀ x, x ∉ N -> ∀ t, sl (setL E p l2) x = some t -> ∃ t0, sl D x = some t0 /\ t.parent = t0.parent := fun x hx t ht => by
  obtain ⟨t0, h1, h2⟩ := sl_setL_from ht
  rw [g.old x hx] at h1
  exact ⟨t0, h1, h2⟩
 have hinto : ∀ x t0, sl D x = some t0 -> ∃ t, sl (setL E p l2) x = some t /\ t.parent = t0.parent := fun x t0 h0 => by
  have : sl E x = some t0 := by rw [g.old x (g.notin (.inr ⟨t0, h0⟩))]; exact h0
  exact sl_setL_into this
 have hdp : (ups D p).length = dep lv p := ups_length hl hp
 obtain ⟨d1, d2⟩ := slots_setL (D := E) (p := p) (l' := l2)
 have hS : ∀ (j : Nat) (t : Sl), (setL E p l2).S[j]? = some t -> ∃ t1, E.S[j]? = some t1 /\ (t = t1 \/ (t1.live = true /\ t1.kind ≠ 2 /\ t = { t1 with kids := l2 })) := fun j t ht => by
  obtain ⟨t1, h1, h2⟩ := d2 j t ht
  refine ⟨t1, h1, h2.imp id (fun ⟨e1, e2, e3⟩ => ?_)⟩
  obtain ⟨_, _, _, h4, _⟩ := sl_live e1
  rw [g.old p hpN] at e1
  exact ⟨h4, hkd t1 e1, e3⟩
 have hs := g.sane
 refine ⟨⟨by rw [d1]; exact hs.fits.len, fun j t ht => ?_⟩, fun j t ht => ?_, fun j t ht hd => ?_, fun j t ht hd => ?_, fun j t ht hd => ?_, ⟨fun x => if x ∈ N then lvN x + dep lv p else lv x, fun x t ht => ?_⟩, fun x t ht => ?_, fun q hq x hx => ?_, fun q => ?_⟩
 ·obtain ⟨t1, h1, rfl | ⟨_, _, rfl⟩⟩ := hS j t ht
  ·exact hs.fits.gen j t h1
  ·exact hs.fits.gen j t1 h1
 ·obtain ⟨t1, h1, rfl | ⟨_, _, rfl⟩⟩ := hS j t ht
  ·exact hs.gen1 j t h1
  ·exact hs.gen1 j t1 h1
 ·obtain ⟨t1, h1, rfl | ⟨h2, _, rfl⟩⟩ := hS j t ht
  ·exact hs.dead j t h1 hd
  ·have hd' : t1.live = false := hd
   rw [h2] at hd'
   cases hd'
 ·obtain ⟨t1, h1, rfl | ⟨h2, _, rfl⟩⟩ := hS j t ht
  ·exact hs.own j t h1 hd
  ·exact hs.own j t1 h1 h2
 ·obtain ⟨t1, h1, rfl | ⟨h2, h3, rfl⟩⟩ := hS j t ht
  ·exact hs.used j t h1 hd
  ·exact ⟨fun e => absurd e h3, (hs.used j t1 h1 h2).2⟩
 ·by_cases hx : x ∈ N
  ·rw [hslN x hx] at ht
   obtain ⟨g1, g2⟩ := hlN x hx
   obtain ⟨s, h1, h2⟩ := g.par x hx
   rw [ht] at h1
   cases h1
   simp only [if_pos hx]
   refine ⟨by omega, ?_⟩
   rcases h2 with ⟨h3, h4⟩ | ⟨h3, h4, q, h5, h6⟩
   ·rw [(g2 t ht).1 h3, h4]
    rcases hp with rfl | ⟨q, hq⟩
    ·exact .inl ⟨rfl, by simp [dep]⟩
    ·right
     obtain ⟨q', e1, _⟩ := hinto p q hq
     refine ⟨q', e1, ?_⟩
     rw [if_neg hpN]
     have h0 : p ≠ 0 := fun e => by rw [e, sl_zero] at hq; cases hq
     simp [dep, h0]
   ·right
    refine ⟨q, by rw [hslN _ h4]; exact h5, ?_⟩
    rw [if_pos h4, (g2 t ht).2 h3]
    omega
  ·obtain ⟨t0, h1, h2⟩ := hfrom x hx t ht
   obtain ⟨g1, g2⟩ := hl x t0 h1
   simp only [if_neg hx]
   refine ⟨g1, ?_⟩
   rw [h2]
   rcases g2 with g2 | ⟨q, hq, g3⟩
   ·exact .inl g2
   ·right
    obtain ⟨q', e1, _⟩ := hinto t0.parent q hq
    refine ⟨q', e1, ?_⟩
    rw [if_neg (g.notin (.inr ⟨q, hq⟩))]
    exact g3
 ·by_cases hx : x ∈ N
  ·rw [hslN x hx] at ht
   obtain ⟨s, h1, h2⟩ := g.par x hx
   rw [ht] at h1
   cases h1
   rw [hlF]
   rcases h2 with ⟨h3, h4⟩ | ⟨h3, h4, q, h5, h6⟩
   ·rw [if_pos h4, hins]
    exact .inl (by simpa using h3)
   ·rw [if_neg (fun (e : t.parent = p) => hpN (e ▸ h4)), lst_of h5]
    exact h6
  ·obtain ⟨t0, h1, h2⟩ := hfrom x hx t ht
   have hu := hw.up x t0 h1
   rw [h2, hlF]
   by_cases e : t0.parent = p
   ·rw [if_pos e, hins]
    exact .inr (e ▸ hu)
   ·rw [if_neg e, g.lst_old (g.notin (dep_par hl h1).2)]
    exact hu
 ·rw [hlF] at hx
  have hold : ∀ q, (q = 0 \/ ∃ s, sl D q = some s) -> x ∈ lst D q -> ∃ s, sl (setL E p l2) x = some s /\ s.parent = q := fun q hq hx => by
   obtain ⟨s, h1, h2⟩ := hw.down q hq x hx
   obtain ⟨t, h3, h4⟩ := hinto x s h1
   exact ⟨t, h3, h4.trans h2⟩
  by_cases e : q = p
  ·rw [if_pos e, hins] at hx
   rcases hx with rfl | hx
   ·obtain ⟨s, h1, h2⟩ := g.par x hhN
    refine ⟨s, by rw [hslN x hhN]; exact h1, ?_⟩
    rcases h2 with ⟨_, h3⟩ | ⟨h3, _⟩
    ·rw [h3, e]
    ·exact absurd (by simp) h3
   ·rw [e]
    exact hold p hp hx
  ·rw [if_neg e] at hx
   by_cases hqN : q ∈ N
   ·obtain ⟨s, h1, h2, h3⟩ := g.kids q hqN
    rw [lst_of h1] at hx
    obtain ⟨g1, _, t, g3, g4⟩ := h3 x hx
    exact ⟨t, by rw [hslN x g1]; exact g3, g4⟩
   ·rw [g.lst_old hqN] at hx
    exact hold q (hq.imp id (fun ⟨t, ht⟩ => by obtain ⟨t0, h1, _⟩ := hfrom q hqN t ht; exact ⟨t0, h1⟩)) hx
 ·rw [hlF]
  by_cases e : q = p
  ·rw [if_pos e]
   exact hind
  ·rw [if_neg e]
   by_cases hqN : q ∈ N
   ·obtain ⟨s, h1, h2, h3⟩ := g.kids q hqN
    rw [lst_of h1]
    exact h2
   ·rw [g.lst_old hqN]
    exact hw.nodup q
theorem setPar_same {D : Dc} {n p : Nat} {s : Sl} (hs : sl D n = some s) (hp : s.parent = p) : setPar D n p = D := by
 obtain ⟨i, h1, h2, h3⟩ := setPar_of (p := p) hs
 rw [h3]
 unfold setS
 have : ({ s with parent := p } : Sl) = s := by rw [<- hp]
 rw [this]
 have hi := (List.getElem?_eq_some_iff.1 h2)
 have : D.S.set i s = D.S := by
  rw [<- hi.2]
  exact List.set_getElem_self hi.1
 rw [this]
end Go.Proofs.YtjkgjckkglfokaaGreat.Gr
