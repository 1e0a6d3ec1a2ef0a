/- What Drop does: a place is taken out of the chain and its tag out of the map. -/
import Derived.Test.YtkppcnednfjbhaaGiven
namespace Go.Proofs.Ytkppcnednfjbhaa
open Go.RowKit Go.Maps

set_option maxHeartbeats 1000000 in
theorem drop_none (w : World) (pb : Nat) (S : St) (t : Nat) (h : Lies w pb S) (ht : t < 18446744073709551616) (hb : blkOf S.ns t = none) :
    Calls Try.prog 16 #[.pointer (some ⟨pb, 0, none⟩), .int .u64 (t : Int)] w fun e w' => e = .returned (.int .i64 10) ∧ w' = w := by
  have hm : w.cell? ⟨pb, 0, none⟩ = some (.map S.mb) := by rw [h.head.cell]; rfl
  have hlook := h.map.look ht
  rw [hb] at hlook
  clear h hb
  go_enter Try.func16, Try.ntmps16
  go_wp2
  go_ret
  exact ⟨rfl, rfl⟩

set_option maxHeartbeats 1000000 in
theorem drop_mid (w : World) (pb m t b a nb : Nat) (f : Nat → Option Nat) (N : Nat) (hm : w.cell? ⟨pb, 0, none⟩ = some (.map (some m))) (hmap : PMap w m f N) (hft : f t = some b) (ht : t < 18446744073709551616)
    (hp : w.cell? ⟨b, 2, none⟩ = some (.pointer (some ⟨a, 0, none⟩))) (hn : w.cell? ⟨b, 3, none⟩ = some (.pointer (some ⟨nb, 0, none⟩))) (ha3 : w.cell? ⟨a, 3, none⟩ = some (.pointer (some ⟨b, 0, none⟩))) (hfa : ∀ k, w.frozen? ⟨a, k, none⟩ = false) (hab : a ≠ b) (hma : m ≠ a) (hnb2 : w.cell? ⟨nb, 2, none⟩ = some (.pointer (some ⟨b, 0, none⟩))) (hfn : ∀ k, w.frozen? ⟨nb, k, none⟩ = false) (hnp : nb ≠ pb) (hnb : nb ≠ b) (hmn : m ≠ nb) (han : a ≠ nb) :
    Calls Try.prog 16 #[.pointer (some ⟨pb, 0, none⟩), .int .u64 (t : Int)] w fun e w' => e = .returned (.int .i64 0) ∧ PMap w' m (fun s => if s = t then none else f s) (N - 1) ∧
      World.mapTurned ((w.setCell ⟨a, 3, none⟩ (.pointer (some ⟨nb, 0, none⟩))).setCell ⟨nb, 2, none⟩ (.pointer (some ⟨a, 0, none⟩))).drew.drew w' m := by
  have hXm : PMap ((w.setCell ⟨a, 3, none⟩ (.pointer (some ⟨nb, 0, none⟩))).setCell ⟨nb, 2, none⟩ (.pointer (some ⟨a, 0, none⟩))).drew.drew m f N := hmap.of_block (by rw [heap_drew, heap_drew, Below.heap_setCell _ _ _ _ (by simpa using hmn), Below.heap_setCell _ _ _ _ (by simpa using hma)])
  obtain ⟨w2, hrun, hP2, hturn⟩ := hXm.drop (t := t) (by omega) hft 0
  have hlook := hmap.look ht
  rw [hft] at hlook
  have HP : Hid (PMap w2 m (fun s => if s = t then none else f s) (N - 1)) := hP2
  have HM : Hid (World.mapTurned ((w.setCell ⟨a, 3, none⟩ (.pointer (some ⟨nb, 0, none⟩))).setCell ⟨nb, 2, none⟩ (.pointer (some ⟨a, 0, none⟩))).drew.drew w2 m) := hturn
  clear hXm hmap hP2 hturn hft
  go_enter Try.func16, Try.ntmps16
  go_wp2
  go_region
  go_wp2
  go_region
  go_wp2
  go_ret
  exact ⟨rfl, HP.out, HM.out⟩

set_option maxHeartbeats 1000000 in
theorem drop_last (w : World) (pb m t b a : Nat) (f : Nat → Option Nat) (N : Nat) (hm : w.cell? ⟨pb, 0, none⟩ = some (.map (some m))) (hmap : PMap w m f N) (hft : f t = some b) (ht : t < 18446744073709551616)
    (hp : w.cell? ⟨b, 2, none⟩ = some (.pointer (some ⟨a, 0, none⟩))) (hn : w.cell? ⟨b, 3, none⟩ = some (.pointer none)) (ha3 : w.cell? ⟨a, 3, none⟩ = some (.pointer (some ⟨b, 0, none⟩))) (hfa : ∀ k, w.frozen? ⟨a, k, none⟩ = false) (hab : a ≠ b) (hma : m ≠ a) :
    Calls Try.prog 16 #[.pointer (some ⟨pb, 0, none⟩), .int .u64 (t : Int)] w fun e w' => e = .returned (.int .i64 0) ∧ PMap w' m (fun s => if s = t then none else f s) (N - 1) ∧
      World.mapTurned (w.setCell ⟨a, 3, none⟩ (.pointer none)).drew w' m := by
  have hXm : PMap (w.setCell ⟨a, 3, none⟩ (.pointer none)).drew m f N := hmap.of_block (by rw [heap_drew, Below.heap_setCell _ _ _ _ (by simpa using hma)])
  obtain ⟨w2, hrun, hP2, hturn⟩ := hXm.drop (t := t) (by omega) hft 0
  have hlook := hmap.look ht
  rw [hft] at hlook
  have HP : Hid (PMap w2 m (fun s => if s = t then none else f s) (N - 1)) := hP2
  have HM : Hid (World.mapTurned (w.setCell ⟨a, 3, none⟩ (.pointer none)).drew w2 m) := hturn
  clear hXm hmap hP2 hturn hft
  go_enter Try.func16, Try.ntmps16
  go_wp2
  go_region
  go_wp2
  go_ret
  exact ⟨rfl, HP.out, HM.out⟩

set_option maxHeartbeats 1000000 in
theorem drop_front (w : World) (pb m t b nb : Nat) (f : Nat → Option Nat) (N : Nat) (hm : w.cell? ⟨pb, 0, none⟩ = some (.map (some m))) (hmap : PMap w m f N) (hft : f t = some b) (ht : t < 18446744073709551616) (hmp : m ≠ pb)
    (hp : w.cell? ⟨b, 2, none⟩ = some (.pointer (some ⟨pb, 1, none⟩))) (hn : w.cell? ⟨b, 3, none⟩ = some (.pointer (some ⟨nb, 0, none⟩))) (hf : ∀ k, w.frozen? ⟨pb, k, none⟩ = false) (ha3 : w.cell? ⟨pb, 4, none⟩ = some (.pointer (some ⟨b, 0, none⟩))) (hnb2 : w.cell? ⟨nb, 2, none⟩ = some (.pointer (some ⟨b, 0, none⟩))) (hfn : ∀ k, w.frozen? ⟨nb, k, none⟩ = false) (hmn : m ≠ nb) :
    Calls Try.prog 16 #[.pointer (some ⟨pb, 0, none⟩), .int .u64 (t : Int)] w fun e w' => e = .returned (.int .i64 0) ∧ PMap w' m (fun s => if s = t then none else f s) (N - 1) ∧
      World.mapTurned ((w.setCell ⟨pb, 4, none⟩ (.pointer (some ⟨nb, 0, none⟩))).setCell ⟨nb, 2, none⟩ (.pointer (some ⟨pb, 1, none⟩))).drew.drew w' m := by
  have hXm : PMap ((w.setCell ⟨pb, 4, none⟩ (.pointer (some ⟨nb, 0, none⟩))).setCell ⟨nb, 2, none⟩ (.pointer (some ⟨pb, 1, none⟩))).drew.drew m f N := hmap.of_block (by rw [heap_drew, heap_drew, Below.heap_setCell _ _ _ _ (by simpa using hmn), Below.heap_setCell _ _ _ _ (by simpa using hmp)])
  obtain ⟨w2, hrun, hP2, hturn⟩ := hXm.drop (t := t) (by omega) hft 0
  have hlook := hmap.look ht
  rw [hft] at hlook
  have HP : Hid (PMap w2 m (fun s => if s = t then none else f s) (N - 1)) := hP2
  have HM : Hid (World.mapTurned ((w.setCell ⟨pb, 4, none⟩ (.pointer (some ⟨nb, 0, none⟩))).setCell ⟨nb, 2, none⟩ (.pointer (some ⟨pb, 1, none⟩))).drew.drew w2 m) := hturn
  clear hXm hmap hP2 hturn hft
  go_enter Try.func16, Try.ntmps16
  go_wp2
  go_region
  go_wp2
  go_region
  go_wp2
  go_ret
  exact ⟨rfl, HP.out, HM.out⟩

set_option maxHeartbeats 1000000 in
theorem drop_only (w : World) (pb m t b : Nat) (f : Nat → Option Nat) (N : Nat) (hm : w.cell? ⟨pb, 0, none⟩ = some (.map (some m))) (hmap : PMap w m f N) (hft : f t = some b) (ht : t < 18446744073709551616) (hmp : m ≠ pb)
    (hp : w.cell? ⟨b, 2, none⟩ = some (.pointer (some ⟨pb, 1, none⟩))) (hn : w.cell? ⟨b, 3, none⟩ = some (.pointer none)) (hf : ∀ k, w.frozen? ⟨pb, k, none⟩ = false) (ha3 : w.cell? ⟨pb, 4, none⟩ = some (.pointer (some ⟨b, 0, none⟩))) :
    Calls Try.prog 16 #[.pointer (some ⟨pb, 0, none⟩), .int .u64 (t : Int)] w fun e w' => e = .returned (.int .i64 0) ∧ PMap w' m (fun s => if s = t then none else f s) (N - 1) ∧
      World.mapTurned (w.setCell ⟨pb, 4, none⟩ (.pointer none)).drew w' m := by
  have hXm : PMap (w.setCell ⟨pb, 4, none⟩ (.pointer none)).drew m f N := hmap.of_block (by rw [heap_drew, Below.heap_setCell _ _ _ _ (by simpa using hmp)])
  obtain ⟨w2, hrun, hP2, hturn⟩ := hXm.drop (t := t) (by omega) hft 0
  have hlook := hmap.look ht
  rw [hft] at hlook
  have HP : Hid (PMap w2 m (fun s => if s = t then none else f s) (N - 1)) := hP2
  have HM : Hid (World.mapTurned (w.setCell ⟨pb, 4, none⟩ (.pointer none)).drew w2 m) := hturn
  clear hXm hmap hP2 hturn hft
  go_enter Try.func16, Try.ntmps16
  go_wp2
  go_region
  go_wp2
  go_ret
  exact ⟨rfl, HP.out, HM.out⟩

/-- What the blocks must hold behind the links' turn, where the place c is taken out. -/
theorem lies_del {X : World} {pb : Nat} {S : St} {c : Nat} {x : Nd} {m : Option Nat} {g wr : Nat} (hc : S.ns[c]? = some x) (hd : (S.ns.map Nd.tag).Nodup)
    (H1 : IsCells X pb #[.map m, .int .u64 0, .int .u64 0, .pointer none, .pointer (if c = 0 then ptrN S.ns 1 else ptrN S.ns 0), .int .u64 g, .int .u64 wr])
    (H2 : ∀ j n, j ≠ c → S.ns[j]? = some n → IsCells X n.blk #[.int .u64 n.tag, .int .u64 n.lab, .pointer (if j = c + 1 then prevOf pb S.ns c else prevOf pb S.ns j), .pointer (if j + 1 = c then ptrN S.ns (c + 1) else ptrN S.ns (j + 1))])
    (H4 : MapAt X m (fun t => if t = x.tag then none else blkOf S.ns t) (S.ns.length - 1)) : Lies X pb { mb := m, ns := del c S.ns, given := g, writes := wr } := by
  have hlt := (List.getElem?_eq_some_iff.1 hc).1
  have hcl : c ≤ S.ns.length := by omega
  refine ⟨?_, fun j n hj => ?_, ?_, ?_⟩
  · have e : listCells { mb := m, ns := del c S.ns, given := g, writes := wr } = #[.map m, .int .u64 0, .int .u64 0, .pointer none, .pointer (if c = 0 then ptrN S.ns 1 else ptrN S.ns 0), .int .u64 g, .int .u64 wr] := by
      have : ptrN (del c S.ns) 0 = if c = 0 then ptrN S.ns 1 else ptrN S.ns 0 := by
        rw [ptrN_del hcl]
        by_cases e : c = 0
        · subst e; rfl
        · rw [if_pos (by omega), if_neg e]
      simp [listCells, this]
    rw [e]; exact H1
  · rw [show ({ mb := m, ns := del c S.ns, given := g, writes := wr } : St).ns = del c S.ns from rfl] at hj ⊢
    rw [del_get hcl] at hj
    unfold nodeCells
    by_cases h1 : j < c
    · rw [if_pos h1] at hj
      have h2 := H2 j n (by omega) hj
      rw [if_neg (by omega)] at h2
      have e1 : prevOf pb (del c S.ns) j = prevOf pb S.ns j := by
        cases j with
        | zero => rfl
        | succ i => simp only [prevOf]; rw [ptrN_del hcl, if_pos (by omega)]
      have e2 : ptrN (del c S.ns) (j + 1) = if j + 1 = c then ptrN S.ns (c + 1) else ptrN S.ns (j + 1) := by
        rw [ptrN_del hcl]
        by_cases e : j + 1 = c
        · rw [if_neg (by omega), if_pos e, e]
        · rw [if_pos (by omega), if_neg e]
      rw [e1, e2]; exact h2
    · rw [if_neg h1] at hj
      have h3 := H2 (j + 1) n (by omega) hj
      have e1 : prevOf pb (del c S.ns) j = if j + 1 = c + 1 then prevOf pb S.ns c else prevOf pb S.ns (j + 1) := by
        cases j with
        | zero =>
          have : c = 0 := by omega
          subst this; rfl
        | succ i =>
          simp only [prevOf]
          rw [ptrN_del hcl]
          by_cases e : i + 1 = c
          · rw [if_pos (by omega), if_pos (by omega), ← e]
          · rw [if_neg (by omega), if_neg (by omega)]
      have e2 : ptrN (del c S.ns) (j + 1) = if j + 1 + 1 = c then ptrN S.ns (c + 1) else ptrN S.ns (j + 1 + 1) := by
        rw [ptrN_del hcl, if_neg (by omega), if_neg (by omega)]
      rw [e1, e2]; exact h3
  · show ((del c S.ns).map Nd.tag).Nodup
    rw [del_map]
    exact del_nodup hd
  · show MapAt X m (blkOf (del c S.ns)) (del c S.ns).length
    rw [del_length hlt]
    have : blkOf (del c S.ns) = fun t => if t = x.tag then none else blkOf S.ns t := funext fun t => blkOf_del hc hd t
    rw [this]; exact H4

theorem blkOf_at {ns : List Nd} {i : Nat} {n : Nd} (hi : ns[i]? = some n) (hd : (ns.map Nd.tag).Nodup) : blkOf ns n.tag = some n.blk := by
  have h1 : n.tag ∈ ns.map Nd.tag := List.mem_map_of_mem (List.mem_of_getElem? hi)
  unfold blkOf
  cases hf : ns.find? (fun k => k.tag == n.tag) with
  | none =>
    rw [List.find?_eq_none] at hf
    exact absurd (by simp) (hf n (List.mem_of_getElem? hi))
  | some k =>
    obtain ⟨h2, j, hj, rfl, _⟩ := List.find?_eq_some_iff_getElem.1 hf
    obtain ⟨li, ei⟩ := List.getElem?_eq_some_iff.1 hi
    have h3 : ns[j].tag = ns[i].tag := by rw [ei]; simpa using h2
    have h4 : j = i := by
      rw [List.nodup_iff_pairwise_ne, List.pairwise_iff_getElem] at hd
      rcases Nat.lt_trichotomy i j with hlt | heq | hgt
      · have := hd i j (by simpa using li) (by simpa using hj) hlt
        simp [h3] at this
      · exact heq.symm
      · have := hd j i (by simpa using hj) (by simpa using li) hgt
        simp [h3] at this
    subst h4
    simp [ei]

theorem drop_some (w : World) (pb : Nat) (S : St) (c : Nat) (x : Nd) (h : Lies w pb S) (hx : S.ns[c]? = some x) (ht : x.tag < 18446744073709551616) :
    Calls Try.prog 16 #[.pointer (some ⟨pb, 0, none⟩), .int .u64 (x.tag : Int)] w fun e w' => e = .returned (.int .i64 0) ∧ Lies w' pb { mb := S.mb, ns := del c S.ns, given := S.given, writes := S.writes } ∧ Turn (Own pb S) w w' := by
  have hhead := h.head
  have hfz : ∀ k, w.frozen? ⟨pb, k, none⟩ = false := fun k => hhead.frozen k
  have hxl := (List.getElem?_eq_some_iff.1 hx).1
  have hnx := h.node c x hx
  cases hmb : S.mb with
  | none =>
    have hmap := h.map
    rw [hmb] at hmap
    have := hmap.2
    omega
  | some m =>
    have hmap := h.map
    rw [hmb] at hmap
    obtain ⟨hmp, hmn⟩ := h.map_ne hmb
    have hm0 : w.cell? ⟨pb, 0, none⟩ = some (.map (some m)) := by rw [hhead.cell, ← hmb]; rfl
    cases c with
    | zero =>
      have hpx : ptrN S.ns 0 = some ⟨x.blk, 0, none⟩ := by simp [ptrN, hx]
      by_cases hl : 1 < S.ns.length
      · obtain ⟨nn, hnn⟩ : ∃ nn, S.ns[1]? = some nn := ⟨_, List.getElem?_eq_getElem hl⟩
        have hptr : ptrN S.ns 1 = some ⟨nn.blk, 0, none⟩ := by simp [ptrN, hnn]
        refine (drop_front w pb m x.tag x.blk nn.blk (blkOf S.ns) S.ns.length hm0 hmap (blkOf_at hx h.apart) ht hmp (by rw [hnx.cell]; simp [nodeCells, prevOf]) (by rw [hnx.cell]; simp [nodeCells, hptr]) hfz (by rw [hhead.cell]; simp [listCells, hpx]) (by rw [(h.node 1 nn hnn).cell]; simp [nodeCells, prevOf, hpx]) (fun k => (h.node 1 nn hnn).frozen k) (hmn nn (List.mem_of_getElem? hnn)) ).mono ?_
        rintro e w' ⟨rfl, hP, hT⟩
        refine ⟨rfl, ?_, ?_⟩
        · refine lies_del (S := S) (x := x) (m := some m) hx h.apart ?_ ?_ ?_
          · have h2 := IsCells.turned (X := ((w.setCell ⟨pb, 4, none⟩ (.pointer (some ⟨nn.blk, 0, none⟩))).setCell ⟨nn.blk, 2, none⟩ (.pointer (some ⟨pb, 1, none⟩))).drew.drew) ((hhead.set 4 (.pointer (some ⟨nn.blk, 0, none⟩))).other (a := ⟨nn.blk, 2, none⟩) (Ne.symm (h.ne_head hnn)) (.pointer (some ⟨pb, 1, none⟩))) hT (Ne.symm hmp)
            simpa [listCells, hmb, hptr] using h2
          · intro j n hjc hj
            have hnb := h.ne_head hj
            have hn0 := h.node j n hj
            have hmne := Ne.symm (hmn n (List.mem_of_getElem? hj))
            by_cases ej : j = 1
            · subst ej
              rw [hnn] at hj
              cases hj
              have h2 := IsCells.turned (X := ((w.setCell ⟨pb, 4, none⟩ (.pointer (some ⟨nn.blk, 0, none⟩))).setCell ⟨nn.blk, 2, none⟩ (.pointer (some ⟨pb, 1, none⟩))).drew.drew) ((hn0.other (a := ⟨pb, 4, none⟩) hnb (.pointer (some ⟨nn.blk, 0, none⟩))).set 2 (.pointer (some ⟨pb, 1, none⟩))) hT hmne
              simpa [nodeCells, prevOf] using h2
            · have hnen : n.blk ≠ nn.blk := fun e => ej (h.index hj hnn e)
              have h2 := IsCells.turned (X := ((w.setCell ⟨pb, 4, none⟩ (.pointer (some ⟨nn.blk, 0, none⟩))).setCell ⟨nn.blk, 2, none⟩ (.pointer (some ⟨pb, 1, none⟩))).drew.drew) ((hn0.other (a := ⟨pb, 4, none⟩) hnb (.pointer (some ⟨nn.blk, 0, none⟩))).other (a := ⟨nn.blk, 2, none⟩) hnen (.pointer (some ⟨pb, 1, none⟩))) hT hmne
              simpa [nodeCells, ej] using h2
          · exact hP
        · exact ((((Turn.refl _ w).setCell (.inl rfl) _).setCell (.inr (.inr ⟨nn, List.mem_of_getElem? hnn, rfl⟩)) _)).drew.drew.map hT.grown (.inl (.inr (.inl hmb)))
      · have hptr : ptrN S.ns 1 = none := by unfold ptrN; rw [List.getElem?_eq_none (by omega)]; rfl
        refine (drop_only w pb m x.tag x.blk (blkOf S.ns) S.ns.length hm0 hmap (blkOf_at hx h.apart) ht hmp (by rw [hnx.cell]; simp [nodeCells, prevOf]) (by rw [hnx.cell]; simp [nodeCells, hptr]) hfz (by rw [hhead.cell]; simp [listCells, hpx]) ).mono ?_
        rintro e w' ⟨rfl, hP, hT⟩
        refine ⟨rfl, ?_, ?_⟩
        · refine lies_del (S := S) (x := x) (m := some m) hx h.apart ?_ ?_ ?_
          · have h2 := IsCells.turned (X := (w.setCell ⟨pb, 4, none⟩ (.pointer none)).drew) (hhead.set 4 (.pointer none)) hT (Ne.symm hmp)
            simpa [listCells, hmb, hptr] using h2
          · intro j n hjc hj
            have hnb := h.ne_head hj
            have hn0 := h.node j n hj
            have hmne := Ne.symm (hmn n (List.mem_of_getElem? hj))
            have hjl := (List.getElem?_eq_some_iff.1 hj).1
            have ej : j ≠ 1 := by omega
            have h2 := IsCells.turned (X := (w.setCell ⟨pb, 4, none⟩ (.pointer none)).drew) (hn0.other (a := ⟨pb, 4, none⟩) hnb (.pointer none)) hT hmne
            simpa [nodeCells, ej] using h2
          · exact hP
        · exact (((Turn.refl _ w).setCell (.inl rfl) _)).drew.map hT.grown (.inl (.inr (.inl hmb)))
    | succ i =>
      have hpx : ptrN S.ns (i + 1) = some ⟨x.blk, 0, none⟩ := by simp [ptrN, hx]
      obtain ⟨a, ha⟩ : ∃ a, S.ns[i]? = some a := ⟨_, List.getElem?_eq_getElem (by omega)⟩
      have hpr : prevOf pb S.ns (i + 1) = some ⟨a.blk, 0, none⟩ := by simp [prevOf, ptrN, ha]
      by_cases hl : i + 1 + 1 < S.ns.length
      · obtain ⟨nn, hnn⟩ : ∃ nn, S.ns[i + 1 + 1]? = some nn := ⟨_, List.getElem?_eq_getElem hl⟩
        have hptr : ptrN S.ns (i + 1 + 1) = some ⟨nn.blk, 0, none⟩ := by simp [ptrN, hnn]
        refine (drop_mid w pb m x.tag x.blk a.blk nn.blk (blkOf S.ns) S.ns.length hm0 hmap (blkOf_at hx h.apart) ht (by rw [hnx.cell]; simp [nodeCells, hpr]) (by rw [hnx.cell]; simp [nodeCells, hptr]) (by rw [(h.node i a ha).cell]; simp [nodeCells, hpx]) (fun k => (h.node i a ha).frozen k) (fun e => by have := h.index ha hx e; omega) (hmn a (List.mem_of_getElem? ha)) (by rw [(h.node (i + 1 + 1) nn hnn).cell]; simp [nodeCells, prevOf, hpx]) (fun k => (h.node (i + 1 + 1) nn hnn).frozen k) (h.ne_head hnn) (fun e => by have := h.index hnn hx e; omega) (hmn nn (List.mem_of_getElem? hnn)) (fun e => by have := h.index ha hnn e; omega) ).mono ?_
        rintro e w' ⟨rfl, hP, hT⟩
        refine ⟨rfl, ?_, ?_⟩
        · refine lies_del (S := S) (x := x) (m := some m) hx h.apart ?_ ?_ ?_
          · have h2 := IsCells.turned (X := ((w.setCell ⟨a.blk, 3, none⟩ (.pointer (some ⟨nn.blk, 0, none⟩))).setCell ⟨nn.blk, 2, none⟩ (.pointer (some ⟨a.blk, 0, none⟩))).drew.drew) ((hhead.other (a := ⟨a.blk, 3, none⟩) (Ne.symm (h.ne_head ha)) (.pointer (some ⟨nn.blk, 0, none⟩))).other (a := ⟨nn.blk, 2, none⟩) (Ne.symm (h.ne_head hnn)) (.pointer (some ⟨a.blk, 0, none⟩))) hT (Ne.symm hmp)
            simpa [listCells, hmb] using h2
          · intro j n hjc hj
            have hnb := h.ne_head hj
            have hn0 := h.node j n hj
            have hmne := Ne.symm (hmn n (List.mem_of_getElem? hj))
            by_cases ej : j = (i + 1 + 1)
            · subst ej
              rw [hnn] at hj
              cases hj
              have hnea : nn.blk ≠ a.blk := fun e => by have := h.index hnn ha e; omega
              have h2 := IsCells.turned (X := ((w.setCell ⟨a.blk, 3, none⟩ (.pointer (some ⟨nn.blk, 0, none⟩))).setCell ⟨nn.blk, 2, none⟩ (.pointer (some ⟨a.blk, 0, none⟩))).drew.drew) ((hn0.other (a := ⟨a.blk, 3, none⟩) hnea (.pointer (some ⟨nn.blk, 0, none⟩))).set 2 (.pointer (some ⟨a.blk, 0, none⟩))) hT hmne
              simpa [nodeCells, hpr, show ¬ (i + 1 + 1 = i) by omega] using h2
            · have hnen : n.blk ≠ nn.blk := fun e => ej (h.index hj hnn e)
              by_cases ei : j = i
              · subst ei
                rw [ha] at hj
                cases hj
                have h2 := IsCells.turned (X := ((w.setCell ⟨a.blk, 3, none⟩ (.pointer (some ⟨nn.blk, 0, none⟩))).setCell ⟨nn.blk, 2, none⟩ (.pointer (some ⟨a.blk, 0, none⟩))).drew.drew) ((hn0.set 3 (.pointer (some ⟨nn.blk, 0, none⟩))).other (a := ⟨nn.blk, 2, none⟩) hnen (.pointer (some ⟨a.blk, 0, none⟩))) hT hmne
                simpa [nodeCells, hptr, show ¬ (j = j + 1 + 1) by omega] using h2
              · have hnea : n.blk ≠ a.blk := fun e => ei (h.index hj ha e)
                have h2 := IsCells.turned (X := ((w.setCell ⟨a.blk, 3, none⟩ (.pointer (some ⟨nn.blk, 0, none⟩))).setCell ⟨nn.blk, 2, none⟩ (.pointer (some ⟨a.blk, 0, none⟩))).drew.drew) ((hn0.other (a := ⟨a.blk, 3, none⟩) hnea (.pointer (some ⟨nn.blk, 0, none⟩))).other (a := ⟨nn.blk, 2, none⟩) hnen (.pointer (some ⟨a.blk, 0, none⟩))) hT hmne
                simpa [nodeCells, ej, ei] using h2
          · exact hP
        · exact ((((Turn.refl _ w).setCell (.inr (.inr ⟨a, List.mem_of_getElem? ha, rfl⟩)) _).setCell (.inr (.inr ⟨nn, List.mem_of_getElem? hnn, rfl⟩)) _)).drew.drew.map hT.grown (.inl (.inr (.inl hmb)))
      · have hptr : ptrN S.ns (i + 1 + 1) = none := by unfold ptrN; rw [List.getElem?_eq_none (by omega)]; rfl
        refine (drop_last w pb m x.tag x.blk a.blk (blkOf S.ns) S.ns.length hm0 hmap (blkOf_at hx h.apart) ht (by rw [hnx.cell]; simp [nodeCells, hpr]) (by rw [hnx.cell]; simp [nodeCells, hptr]) (by rw [(h.node i a ha).cell]; simp [nodeCells, hpx]) (fun k => (h.node i a ha).frozen k) (fun e => by have := h.index ha hx e; omega) (hmn a (List.mem_of_getElem? ha)) ).mono ?_
        rintro e w' ⟨rfl, hP, hT⟩
        refine ⟨rfl, ?_, ?_⟩
        · refine lies_del (S := S) (x := x) (m := some m) hx h.apart ?_ ?_ ?_
          · have h2 := IsCells.turned (X := (w.setCell ⟨a.blk, 3, none⟩ (.pointer none)).drew) (hhead.other (a := ⟨a.blk, 3, none⟩) (Ne.symm (h.ne_head ha)) (.pointer none)) hT (Ne.symm hmp)
            simpa [listCells, hmb] using h2
          · intro j n hjc hj
            have hnb := h.ne_head hj
            have hn0 := h.node j n hj
            have hmne := Ne.symm (hmn n (List.mem_of_getElem? hj))
            have hjl := (List.getElem?_eq_some_iff.1 hj).1
            have ej : j ≠ (i + 1 + 1) := by omega
            by_cases ei : j = i
            · subst ei
              rw [ha] at hj
              cases hj
              have h2 := IsCells.turned (X := (w.setCell ⟨a.blk, 3, none⟩ (.pointer none)).drew) (hn0.set 3 (.pointer none)) hT hmne
              simpa [nodeCells, hptr, show ¬ (j = j + 1 + 1) by omega] using h2
            · have hnea : n.blk ≠ a.blk := fun e => ei (h.index hj ha e)
              have h2 := IsCells.turned (X := (w.setCell ⟨a.blk, 3, none⟩ (.pointer none)).drew) (hn0.other (a := ⟨a.blk, 3, none⟩) hnea (.pointer none)) hT hmne
              simpa [nodeCells, ej, ei] using h2
          · exact hP
        · exact (((Turn.refl _ w).setCell (.inr (.inr ⟨a, List.mem_of_getElem? ha, rfl⟩)) _)).drew.map hT.grown (.inl (.inr (.inl hmb)))

end Go.Proofs.Ytkppcnednfjbhaa
