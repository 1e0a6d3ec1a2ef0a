/- What 'give' does to a list that lies in memory: it lies there with a further place, right behind the place that was named. -/
import Derived.Test.YtkppcnednfjbhaaGive
namespace Go.Proofs.Ytkppcnednfjbhaa
open Go.RowKit Go.Maps

set_option maxHeartbeats 1000000 in
theorem give_first (w : World) (pb gv : Nat) (hm : w.cell? ⟨pb, 0, none⟩ = some (.map none)) (hg : w.cell? ⟨pb, 5, none⟩ = some (.int .u64 (gv : Int))) (hf : ∀ k, w.frozen? ⟨pb, k, none⟩ = false) (hps : pb < w.heap.size)
    (hn : w.cell? ⟨pb, 4, none⟩ = some (.pointer none)) (hgv : gv < 18446744073709551615) :
    Calls Try.prog 26 #[.pointer (some ⟨pb, 0, none⟩), .pointer (some ⟨pb, 1, none⟩)] w fun e w' => e = .returned (.pointer (some ⟨w.heap.size + 1, 0, none⟩)) ∧ PMap w' w.heap.size (fun s => if s = gv + 1 then some (w.heap.size + 1) else none) 1 ∧
      World.mapTurned (((((w.setCell ⟨pb, 0, none⟩ (.map (some w.heap.size))).setCell ⟨pb, 5, none⟩ (.int .u64 ((gv : Int) + 1))).setCell ⟨pb, 4, none⟩ (.pointer (some ⟨w.heap.size + 1, 0, none⟩))).alloc (.map #[] 0)).alloc (.cells #[.int .u64 ((gv : Int) + 1), .int .u64 0, .pointer (some ⟨pb, 1, none⟩), .pointer none] 29)).drew.drew w' w.heap.size := by
  have hq := eq_map_none w
  have hmm := @run_makeMap Try.prog
  have hXm : PMap (((((w.setCell ⟨pb, 0, none⟩ (.map (some w.heap.size))).setCell ⟨pb, 5, none⟩ (.int .u64 ((gv : Int) + 1))).setCell ⟨pb, 4, none⟩ (.pointer (some ⟨w.heap.size + 1, 0, none⟩))).alloc (.map #[] 0)).alloc (.cells #[.int .u64 ((gv : Int) + 1), .int .u64 0, .pointer (some ⟨pb, 1, none⟩), .pointer none] 29)).drew.drew w.heap.size (fun _ => none) 0 := by
    have h1 := PMap.made (((w.setCell ⟨pb, 0, none⟩ (.map (some w.heap.size))).setCell ⟨pb, 5, none⟩ (.int .u64 ((gv : Int) + 1))).setCell ⟨pb, 4, none⟩ (.pointer (some ⟨w.heap.size + 1, 0, none⟩)))
    simp only [size_set] at h1
    exact h1.of_block (by rw [heap_drew, heap_drew, alloc_get _ _ h1.lt])
  obtain ⟨w2, hrun, hP2, hturn⟩ := hXm.store (t := gv + 1) (by omega) rfl (by unfold maxLen; omega) (w.heap.size + 1)
  have hrun' : (Instr.mapUpdate 24 (.map (some w.heap.size)) (.int .u64 ((gv : Int) + 1)) (.pointer (some ⟨w.heap.size + 1, 0, none⟩))).run Try.prog (((((w.setCell ⟨pb, 0, none⟩ (.map (some w.heap.size))).setCell ⟨pb, 5, none⟩ (.int .u64 ((gv : Int) + 1))).setCell ⟨pb, 4, none⟩ (.pointer (some ⟨w.heap.size + 1, 0, none⟩))).alloc (.map #[] 0)).alloc (.cells #[.int .u64 ((gv : Int) + 1), .int .u64 0, .pointer (some ⟨pb, 1, none⟩), .pointer none] 29)).drew.drew = .ok () w2 := hrun
  have HP : Hid (PMap w2 w.heap.size (fun s => if s = gv + 1 then some (w.heap.size + 1) else none) 1) := hP2
  have HM : Hid (World.mapTurned (((((w.setCell ⟨pb, 0, none⟩ (.map (some w.heap.size))).setCell ⟨pb, 5, none⟩ (.int .u64 ((gv : Int) + 1))).setCell ⟨pb, 4, none⟩ (.pointer (some ⟨w.heap.size + 1, 0, none⟩))).alloc (.map #[] 0)).alloc (.cells #[.int .u64 ((gv : Int) + 1), .int .u64 0, .pointer (some ⟨pb, 1, none⟩), .pointer none] 29)).drew.drew w2 w.heap.size) := hturn
  clear hrun hXm hP2 hturn
  go_enter Try.func26, Try.ntmps26
  go_wp2
  go_region
  go_wp2
  go_region
  go_wp2
  go_ret
  exact ⟨rfl, HP.out, HM.out⟩

theorem IsCells.drew2 {w : World} {b : Nat} {cs : Array Value} (h : IsCells w b cs) : IsCells w.drew.drew b cs := h
theorem IsCells.turned {X w' : World} {b m : Nat} {cs : Array Value} (h : IsCells X b cs) (ht : X.mapTurned w' m) (hne : b ≠ m) : IsCells w' b cs :=
  h.of_block (ht.grown.block b h.lt (fun e => hne (Option.some.inj e)))

/-- What 'give' leaves. -/
def GivePost (w : World) (pb : Nat) (S : St) (c : Nat) (e : Ending) (w' : World) : Prop :=
  ∃ m' nbk, e = .returned (.pointer (some ⟨nbk, 0, none⟩)) ∧ w.heap.size ≤ nbk ∧ (S.mb = some m' ∨ w.heap.size ≤ m') ∧
    Lies w' pb { mb := some m', ns := ins c ⟨nbk, S.given + 1, 0⟩ S.ns, given := S.given + 1, writes := S.writes } ∧ Turn (Own pb S) w w'

theorem Lies.map_ne {w : World} {pb : Nat} {S : St} {m : Nat} (h : Lies w pb S) (hm : S.mb = some m) : m ≠ pb ∧ ∀ n ∈ S.ns, m ≠ n.blk := by
  have hmap := h.map
  rw [hm] at hmap
  obtain ⟨D, ⟨es, clock, hb, _⟩, _⟩ := hmap
  constructor
  · intro e
    obtain ⟨T, h1⟩ := h.head
    rw [← e, hb] at h1
    simp at h1
  · intro n hn e
    obtain ⟨i, hi⟩ := List.getElem?_of_mem hn
    obtain ⟨T, h1⟩ := h.node i n hi
    rw [← e, hb] at h1
    simp at h1

theorem give_any (w : World) (pb : Nat) (S : St) (c : Nat) (h : Lies w pb S) (hc : c ≤ S.ns.length) (hgv : S.given < 18446744073709551615) (hlen : S.ns.length < 8192) (hx : S.given + 1 ∉ S.ns.map Nd.tag) :
    Calls Try.prog 26 #[.pointer (some ⟨pb, 0, none⟩), .pointer (prevOf pb S.ns c)] w fun e w' => GivePost w pb S c e w' := by
  have hhead := h.head
  have hps := hhead.lt
  have hg : w.cell? ⟨pb, 5, none⟩ = some (.int .u64 (S.given : Int)) := by rw [hhead.cell]; rfl
  have hfz : ∀ k, w.frozen? ⟨pb, k, none⟩ = false := fun k => hhead.frozen k
  cases hmb : S.mb with
  | none =>
    have hmap := h.map
    rw [hmb] at hmap
    have hnil : S.ns = [] := List.length_eq_zero_iff.1 hmap.2
    have hc0 : c = 0 := by rw [hnil] at hc; simpa using hc
    subst hc0
    refine (give_first w pb S.given (by rw [hhead.cell, ← hmb]; rfl) hg hfz hps (by rw [hhead.cell]; simp [listCells, hnil, ptrN]) hgv).mono ?_
    rintro e w' ⟨rfl, hP, hT⟩
    have hh := ((((hhead.set 0 (.map (some w.heap.size))).set 5 (.int .u64 ((S.given : Int) + 1))).set 4 (.pointer (some ⟨w.heap.size + 1, 0, none⟩))).alloc (.map #[] 0)).alloc (.cells #[.int .u64 ((S.given : Int) + 1), .int .u64 0, .pointer (some ⟨pb, 1, none⟩), .pointer none] 29)
    refine ⟨w.heap.size, w.heap.size + 1, rfl, by omega, .inr (Nat.le_refl _), ?_, ?_⟩
    · refine lies_ins (S := S) (x := ⟨w.heap.size + 1, S.given + 1, 0⟩) (Nat.zero_le _) hx h.apart ?_ ?_ ?_ ?_
      · have h2 := hh.drew2.turned hT (by omega)
        simpa [listCells] using h2
      · intro j n hj
        rw [hnil] at hj
        simp at hj
      · have h2 := isCells_new ((((w.setCell ⟨pb, 0, none⟩ (.map (some w.heap.size))).setCell ⟨pb, 5, none⟩ (.int .u64 ((S.given : Int) + 1))).setCell ⟨pb, 4, none⟩ (.pointer (some ⟨w.heap.size + 1, 0, none⟩))).alloc (.map #[] 0)) #[.int .u64 ((S.given : Int) + 1), .int .u64 0, .pointer (some ⟨pb, 1, none⟩), .pointer none] 29
        have e1 : ((((w.setCell ⟨pb, 0, none⟩ (.map (some w.heap.size))).setCell ⟨pb, 5, none⟩ (.int .u64 ((S.given : Int) + 1))).setCell ⟨pb, 4, none⟩ (.pointer (some ⟨w.heap.size + 1, 0, none⟩))).alloc (.map #[] 0)).heap.size = w.heap.size + 1 := by simp
        rw [e1] at h2
        have h3 := h2.drew2.turned hT (by omega)
        simpa [prevOf, ptrN, hnil] using h3
      · rw [hnil]
        exact hP.congr (fun t _ => by simp [blkOf])
    · exact (((((((Turn.refl _ w).setCell (.inl rfl) _).setCell (.inl rfl) _).setCell (.inl rfl) _).alloc _).alloc _).drew.drew).map hT.grown (.inr (Nat.le_refl _))
  | some m =>
    have hmap := h.map
    rw [hmb] at hmap
    obtain ⟨hmp, hmn⟩ := h.map_ne hmb
    have hm0 : w.cell? ⟨pb, 0, none⟩ = some (.map (some m)) := by rw [hhead.cell, ← hmb]; rfl
    have hms : m < w.heap.size := PMap.lt hmap
    have hf0 : blkOf S.ns (S.given + 1) = none := by
      unfold blkOf
      rw [Option.map_eq_none_iff, List.find?_eq_none]
      intro n hn hh
      exact hx (List.mem_map.2 ⟨n, hn, by simpa using hh⟩)
    cases c with
    | zero =>
      by_cases hl : 0 < S.ns.length
      · obtain ⟨nn, hnn⟩ : ∃ nn, S.ns[0]? = some nn := ⟨_, List.getElem?_eq_getElem hl⟩
        have hptr : ptrN S.ns 0 = some ⟨nn.blk, 0, none⟩ := by simp [ptrN, hnn]
        have hnpb := h.ne_head hnn
        refine (give_front w pb m S.given nn.blk (blkOf S.ns) S.ns.length hm0 hg hfz hps hmp hms (by rw [hhead.cell]; simp [listCells, hptr]) (by rw [(h.node 0 nn hnn).cell]; simp [nodeCells, prevOf]) (fun k => (h.node 0 nn hnn).frozen k) hnpb (h.node 0 nn hnn).lt (hmn nn (List.mem_of_getElem? hnn)) hgv hmap hf0 hlen).mono ?_
        rintro e w' ⟨rfl, hP, hT⟩
        have hh := (((hhead.set 5 (.int .u64 ((S.given : Int) + 1))).set 4 (.pointer (some ⟨w.heap.size, 0, none⟩))).other (a := ⟨nn.blk, 2, none⟩) (Ne.symm hnpb) (.pointer (some ⟨w.heap.size, 0, none⟩))).alloc (.cells #[.int .u64 ((S.given : Int) + 1), .int .u64 0, .pointer (some ⟨pb, 1, none⟩), .pointer (some ⟨nn.blk, 0, none⟩)] 29)
        refine ⟨m, w.heap.size, rfl, Nat.le_refl _, .inl hmb, ?_, ?_⟩
        · refine lies_ins (S := S) (x := ⟨w.heap.size, S.given + 1, 0⟩) hc hx h.apart ?_ ?_ ?_ ?_
          · have h2 := hh.drew2.turned hT (Ne.symm hmp)
            simpa [listCells, hmb] using h2
          · intro j n hj
            have hnb := h.ne_head hj
            have hn0 := h.node j n hj
            have hmne := Ne.symm (hmn n (List.mem_of_getElem? hj))
            by_cases ej : j = 0
            · subst ej
              rw [hnn] at hj
              cases hj
              have h2 := (((((hn0.other (a := ⟨pb, 5, none⟩) hnb (.int .u64 ((S.given : Int) + 1))).other (a := ⟨pb, 4, none⟩) hnb (.pointer (some ⟨w.heap.size, 0, none⟩))).set 2 (.pointer (some ⟨w.heap.size, 0, none⟩)))).alloc (.cells #[.int .u64 ((S.given : Int) + 1), .int .u64 0, .pointer (some ⟨pb, 1, none⟩), .pointer (some ⟨nn.blk, 0, none⟩)] 29)).drew2.turned hT hmne
              simpa [nodeCells, prevOf] using h2
            · have hnen : n.blk ≠ nn.blk := fun e => ej (h.index hj hnn e)
              have h2 := (((((hn0.other (a := ⟨pb, 5, none⟩) hnb (.int .u64 ((S.given : Int) + 1))).other (a := ⟨pb, 4, none⟩) hnb (.pointer (some ⟨w.heap.size, 0, none⟩))).other (a := ⟨nn.blk, 2, none⟩) hnen (.pointer (some ⟨w.heap.size, 0, none⟩)))).alloc (.cells #[.int .u64 ((S.given : Int) + 1), .int .u64 0, .pointer (some ⟨pb, 1, none⟩), .pointer (some ⟨nn.blk, 0, none⟩)] 29)).drew2.turned hT hmne
              simpa [nodeCells, ej] using h2
          · have h2 := isCells_new (((w.setCell ⟨pb, 5, none⟩ (.int .u64 ((S.given : Int) + 1))).setCell ⟨pb, 4, none⟩ (.pointer (some ⟨w.heap.size, 0, none⟩))).setCell ⟨nn.blk, 2, none⟩ (.pointer (some ⟨w.heap.size, 0, none⟩))) #[.int .u64 ((S.given : Int) + 1), .int .u64 0, .pointer (some ⟨pb, 1, none⟩), .pointer (some ⟨nn.blk, 0, none⟩)] 29
            have e1 : (((w.setCell ⟨pb, 5, none⟩ (.int .u64 ((S.given : Int) + 1))).setCell ⟨pb, 4, none⟩ (.pointer (some ⟨w.heap.size, 0, none⟩))).setCell ⟨nn.blk, 2, none⟩ (.pointer (some ⟨w.heap.size, 0, none⟩))).heap.size = w.heap.size := by simp only [size_set]
            rw [e1] at h2
            have h3 := h2.drew2.turned hT (by omega)
            simpa [prevOf, hptr] using h3
          · exact hP
        · exact (((((Turn.refl _ w).setCell (.inl rfl) _).setCell (.inl rfl) _).setCell (.inr (.inr ⟨nn, List.mem_of_getElem? hnn, rfl⟩)) _).alloc _).drew.drew.map hT.grown (.inl (.inr (.inl hmb)))
      · have hptr : ptrN S.ns 0 = none := by unfold ptrN; rw [List.getElem?_eq_none (by omega)]; rfl
        refine (give_only w pb m S.given (blkOf S.ns) S.ns.length hm0 hg hfz hps hmp hms (by rw [hhead.cell]; simp [listCells, hptr]) hgv hmap hf0 hlen).mono ?_
        rintro e w' ⟨rfl, hP, hT⟩
        have hh := ((hhead.set 5 (.int .u64 ((S.given : Int) + 1))).set 4 (.pointer (some ⟨w.heap.size, 0, none⟩))).alloc (.cells #[.int .u64 ((S.given : Int) + 1), .int .u64 0, .pointer (some ⟨pb, 1, none⟩), .pointer none] 29)
        refine ⟨m, w.heap.size, rfl, Nat.le_refl _, .inl hmb, ?_, ?_⟩
        · refine lies_ins (S := S) (x := ⟨w.heap.size, S.given + 1, 0⟩) hc hx h.apart ?_ ?_ ?_ ?_
          · have h2 := hh.drew2.turned hT (Ne.symm hmp)
            simpa [listCells, hmb] using h2
          · intro j n hj
            rw [List.getElem?_eq_none (by omega)] at hj
            cases hj
          · have h2 := isCells_new ((w.setCell ⟨pb, 5, none⟩ (.int .u64 ((S.given : Int) + 1))).setCell ⟨pb, 4, none⟩ (.pointer (some ⟨w.heap.size, 0, none⟩))) #[.int .u64 ((S.given : Int) + 1), .int .u64 0, .pointer (some ⟨pb, 1, none⟩), .pointer none] 29
            have e1 : ((w.setCell ⟨pb, 5, none⟩ (.int .u64 ((S.given : Int) + 1))).setCell ⟨pb, 4, none⟩ (.pointer (some ⟨w.heap.size, 0, none⟩))).heap.size = w.heap.size := by simp only [size_set]
            rw [e1] at h2
            have h3 := h2.drew2.turned hT (by omega)
            simpa [prevOf, hptr] using h3
          · exact hP
        · exact ((((Turn.refl _ w).setCell (.inl rfl) _).setCell (.inl rfl) _).alloc _).drew.drew.map hT.grown (.inl (.inr (.inl hmb)))
    | succ i =>
      obtain ⟨a, ha⟩ : ∃ a, S.ns[i]? = some a := ⟨_, List.getElem?_eq_getElem (by omega)⟩
      have hapb := h.ne_head ha
      have hpr : prevOf pb S.ns (i + 1) = some ⟨a.blk, 0, none⟩ := by simp [prevOf, ptrN, ha]
      rw [hpr]
      by_cases hl : i + 1 < S.ns.length
      · obtain ⟨nn, hnn⟩ : ∃ nn, S.ns[i + 1]? = some nn := ⟨_, List.getElem?_eq_getElem hl⟩
        have hptr : ptrN S.ns (i + 1) = some ⟨nn.blk, 0, none⟩ := by simp [ptrN, hnn]
        have hnpb := h.ne_head hnn
        have hnna : nn.blk ≠ a.blk := fun e => by have := h.index hnn ha e; omega
        refine (give_mid w pb m S.given a.blk nn.blk (blkOf S.ns) S.ns.length hm0 hg hfz hps hmp hms (by rw [(h.node i a ha).cell]; simp [nodeCells, hptr]) (fun k => (h.node i a ha).frozen k) hapb (h.node i a ha).lt (hmn a (List.mem_of_getElem? ha)) (by rw [(h.node (i + 1) nn hnn).cell]; simp [nodeCells, prevOf, ptrN, ha]) (fun k => (h.node (i + 1) nn hnn).frozen k) hnpb (h.node (i + 1) nn hnn).lt (hmn nn (List.mem_of_getElem? hnn)) hnna hgv hmap hf0 hlen).mono ?_
        rintro e w' ⟨rfl, hP, hT⟩
        have hh := (((hhead.set 5 (.int .u64 ((S.given : Int) + 1))).other (a := ⟨a.blk, 3, none⟩) (Ne.symm hapb) (.pointer (some ⟨w.heap.size, 0, none⟩))).other (a := ⟨nn.blk, 2, none⟩) (Ne.symm hnpb) (.pointer (some ⟨w.heap.size, 0, none⟩))).alloc (.cells #[.int .u64 ((S.given : Int) + 1), .int .u64 0, .pointer (some ⟨a.blk, 0, none⟩), .pointer (some ⟨nn.blk, 0, none⟩)] 29)
        refine ⟨m, w.heap.size, rfl, Nat.le_refl _, .inl hmb, ?_, ?_⟩
        · refine lies_ins (S := S) (x := ⟨w.heap.size, S.given + 1, 0⟩) hc hx h.apart ?_ ?_ ?_ ?_
          · have h2 := hh.drew2.turned hT (Ne.symm hmp)
            simpa [listCells, hmb] using h2
          · intro j n hj
            have hnb := h.ne_head hj
            have hn0 := h.node j n hj
            have hmne := Ne.symm (hmn n (List.mem_of_getElem? hj))
            by_cases ej : j = (i + 1)
            · subst ej
              rw [hnn] at hj
              cases hj
              have hnea := hnna
              have h2 := (((((hn0.other (a := ⟨pb, 5, none⟩) hnb (.int .u64 ((S.given : Int) + 1))).other (a := ⟨a.blk, 3, none⟩) hnea (.pointer (some ⟨w.heap.size, 0, none⟩))).set 2 (.pointer (some ⟨w.heap.size, 0, none⟩)))).alloc (.cells #[.int .u64 ((S.given : Int) + 1), .int .u64 0, .pointer (some ⟨a.blk, 0, none⟩), .pointer (some ⟨nn.blk, 0, none⟩)] 29)).drew2.turned hT hmne
              simpa [nodeCells, show ¬ (i + 1 + 1 = i + 1) by omega] using h2
            · have hnen : n.blk ≠ nn.blk := fun e => ej (h.index hj hnn e)
              by_cases ei : j = i
              · subst ei
                rw [ha] at hj
                cases hj
                have h2 := (((((hn0.other (a := ⟨pb, 5, none⟩) hnb (.int .u64 ((S.given : Int) + 1))).set 3 (.pointer (some ⟨w.heap.size, 0, none⟩))).other (a := ⟨nn.blk, 2, none⟩) hnen (.pointer (some ⟨w.heap.size, 0, none⟩)))).alloc (.cells #[.int .u64 ((S.given : Int) + 1), .int .u64 0, .pointer (some ⟨a.blk, 0, none⟩), .pointer (some ⟨nn.blk, 0, none⟩)] 29)).drew2.turned hT hmne
                simpa [nodeCells, show ¬ (j = j + 1) by omega] using h2
              · have hnea : n.blk ≠ a.blk := fun e => ei (h.index hj ha e)
                have h2 := (((((hn0.other (a := ⟨pb, 5, none⟩) hnb (.int .u64 ((S.given : Int) + 1))).other (a := ⟨a.blk, 3, none⟩) hnea (.pointer (some ⟨w.heap.size, 0, none⟩))).other (a := ⟨nn.blk, 2, none⟩) hnen (.pointer (some ⟨w.heap.size, 0, none⟩)))).alloc (.cells #[.int .u64 ((S.given : Int) + 1), .int .u64 0, .pointer (some ⟨a.blk, 0, none⟩), .pointer (some ⟨nn.blk, 0, none⟩)] 29)).drew2.turned hT hmne
                simpa [nodeCells, ej, ei] using h2
          · have h2 := isCells_new (((w.setCell ⟨pb, 5, none⟩ (.int .u64 ((S.given : Int) + 1))).setCell ⟨a.blk, 3, none⟩ (.pointer (some ⟨w.heap.size, 0, none⟩))).setCell ⟨nn.blk, 2, none⟩ (.pointer (some ⟨w.heap.size, 0, none⟩))) #[.int .u64 ((S.given : Int) + 1), .int .u64 0, .pointer (some ⟨a.blk, 0, none⟩), .pointer (some ⟨nn.blk, 0, none⟩)] 29
            have e1 : (((w.setCell ⟨pb, 5, none⟩ (.int .u64 ((S.given : Int) + 1))).setCell ⟨a.blk, 3, none⟩ (.pointer (some ⟨w.heap.size, 0, none⟩))).setCell ⟨nn.blk, 2, none⟩ (.pointer (some ⟨w.heap.size, 0, none⟩))).heap.size = w.heap.size := by simp only [size_set]
            rw [e1] at h2
            have h3 := h2.drew2.turned hT (by omega)
            simpa [hpr, hptr] using h3
          · exact hP
        · exact (((((Turn.refl _ w).setCell (.inl rfl) _).setCell (.inr (.inr ⟨a, List.mem_of_getElem? ha, rfl⟩)) _).setCell (.inr (.inr ⟨nn, List.mem_of_getElem? hnn, rfl⟩)) _).alloc _).drew.drew.map hT.grown (.inl (.inr (.inl hmb)))
      · have hptr : ptrN S.ns (i + 1) = none := by unfold ptrN; rw [List.getElem?_eq_none (by omega)]; rfl
        refine (give_last w pb m S.given a.blk (blkOf S.ns) S.ns.length hm0 hg hfz hps hmp hms (by rw [(h.node i a ha).cell]; simp [nodeCells, hptr]) (fun k => (h.node i a ha).frozen k) hapb (h.node i a ha).lt (hmn a (List.mem_of_getElem? ha)) hgv hmap hf0 hlen).mono ?_
        rintro e w' ⟨rfl, hP, hT⟩
        have hh := ((hhead.set 5 (.int .u64 ((S.given : Int) + 1))).other (a := ⟨a.blk, 3, none⟩) (Ne.symm hapb) (.pointer (some ⟨w.heap.size, 0, none⟩))).alloc (.cells #[.int .u64 ((S.given : Int) + 1), .int .u64 0, .pointer (some ⟨a.blk, 0, none⟩), .pointer none] 29)
        refine ⟨m, w.heap.size, rfl, Nat.le_refl _, .inl hmb, ?_, ?_⟩
        · refine lies_ins (S := S) (x := ⟨w.heap.size, S.given + 1, 0⟩) hc hx h.apart ?_ ?_ ?_ ?_
          · have h2 := hh.drew2.turned hT (Ne.symm hmp)
            simpa [listCells, hmb] using h2
          · intro j n hj
            have hnb := h.ne_head hj
            have hn0 := h.node j n hj
            have hmne := Ne.symm (hmn n (List.mem_of_getElem? hj))
            have hjl := (List.getElem?_eq_some_iff.1 hj).1
            have ej : j ≠ i + 1 := by omega
            by_cases ei : j = i
            · subst ei
              rw [ha] at hj
              cases hj
              have h2 := ((((hn0.other (a := ⟨pb, 5, none⟩) hnb (.int .u64 ((S.given : Int) + 1))).set 3 (.pointer (some ⟨w.heap.size, 0, none⟩)))).alloc (.cells #[.int .u64 ((S.given : Int) + 1), .int .u64 0, .pointer (some ⟨a.blk, 0, none⟩), .pointer none] 29)).drew2.turned hT hmne
              simpa [nodeCells, show ¬ (j = j + 1) by omega] using h2
            · have hnea : n.blk ≠ a.blk := fun e => ei (h.index hj ha e)
              have h2 := ((((hn0.other (a := ⟨pb, 5, none⟩) hnb (.int .u64 ((S.given : Int) + 1))).other (a := ⟨a.blk, 3, none⟩) hnea (.pointer (some ⟨w.heap.size, 0, none⟩)))).alloc (.cells #[.int .u64 ((S.given : Int) + 1), .int .u64 0, .pointer (some ⟨a.blk, 0, none⟩), .pointer none] 29)).drew2.turned hT hmne
              simpa [nodeCells, ej, ei] using h2
          · have h2 := isCells_new ((w.setCell ⟨pb, 5, none⟩ (.int .u64 ((S.given : Int) + 1))).setCell ⟨a.blk, 3, none⟩ (.pointer (some ⟨w.heap.size, 0, none⟩))) #[.int .u64 ((S.given : Int) + 1), .int .u64 0, .pointer (some ⟨a.blk, 0, none⟩), .pointer none] 29
            have e1 : ((w.setCell ⟨pb, 5, none⟩ (.int .u64 ((S.given : Int) + 1))).setCell ⟨a.blk, 3, none⟩ (.pointer (some ⟨w.heap.size, 0, none⟩))).heap.size = w.heap.size := by simp only [size_set]
            rw [e1] at h2
            have h3 := h2.drew2.turned hT (by omega)
            simpa [hpr, hptr] using h3
          · exact hP
        · exact ((((Turn.refl _ w).setCell (.inl rfl) _).setCell (.inr (.inr ⟨a, List.mem_of_getElem? ha, rfl⟩)) _).alloc _).drew.drew.map hT.grown (.inl (.inr (.inl hmb)))

end Go.Proofs.Ytkppcnednfjbhaa
