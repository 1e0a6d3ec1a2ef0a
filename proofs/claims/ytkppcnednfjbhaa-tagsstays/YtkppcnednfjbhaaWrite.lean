/- What 'write' does: a place gets a label; what 'respace' does: places one behind the other get labels, each a step behind the last. -/
import Derived.Test.YtkppcnednfjbhaaReads
namespace Go.Proofs.Ytkppcnednfjbhaa
open Go.RowKit Go.Maps

def skel (ns : List Nd) : List (Nat × Nat) := ns.map fun n => (n.blk, n.tag)

theorem skel_at {ns ns' : List Nd} (h : skel ns = skel ns') (i : Nat) : (ns[i]?).map (fun n => (n.blk, n.tag)) = (ns'[i]?).map (fun n => (n.blk, n.tag)) := by
  have := congrArg (fun l => l[i]?) h
  simpa [skel] using this
theorem skel_ptrN {ns ns' : List Nd} (h : skel ns = skel ns') (i : Nat) : ptrN ns i = ptrN ns' i := by
  have := congrArg (Option.map fun p : Nat × Nat => (⟨p.1, 0, none⟩ : Addr)) (skel_at h i)
  simpa [ptrN, Function.comp_def] using this
theorem skel_prevOf {ns ns' : List Nd} (h : skel ns = skel ns') (pb i : Nat) : prevOf pb ns i = prevOf pb ns' i := by
  cases i with
  | zero => rfl
  | succ i => exact skel_ptrN h i
theorem skel_tags {ns ns' : List Nd} (h : skel ns = skel ns') : ns.map Nd.tag = ns'.map Nd.tag := by
  have := congrArg (List.map Prod.snd) h
  simpa [skel, Function.comp_def] using this
theorem skel_blks {ns ns' : List Nd} (h : skel ns = skel ns') : ns.map Nd.blk = ns'.map Nd.blk := by
  have := congrArg (List.map Prod.fst) h
  simpa [skel, Function.comp_def] using this
theorem skel_length {ns ns' : List Nd} (h : skel ns = skel ns') : ns.length = ns'.length := by
  simpa [skel] using congrArg List.length h
theorem blkOf_skel (ns : List Nd) (t : Nat) : blkOf ns t = ((skel ns).find? (fun p => p.2 == t)).map Prod.fst := by
  simp [blkOf, skel, List.find?_map, Function.comp_def]
theorem skel_blkOf {ns ns' : List Nd} (h : skel ns = skel ns') (t : Nat) : blkOf ns t = blkOf ns' t := by
  rw [blkOf_skel, blkOf_skel, h]
theorem skel_set {ns : List Nd} {i : Nat} {n : Nd} (hi : ns[i]? = some n) (l : Nat) : skel (ns.set i { n with lab := l }) = skel ns := by
  apply List.ext_getElem?
  intro j
  simp only [skel, List.getElem?_map, List.getElem?_set]
  split
  · rename_i e; subst e
    split
    · simp [hi]
    · rename_i hlt; rw [List.getElem?_eq_none (by omega)]
  · rfl

def St.put (S : St) (i : Nat) (n : Nd) (l : Nat) : St := { S with ns := S.ns.set i { n with lab := l }, writes := S.writes + (if n.lab = l then 0 else 1) }

theorem own_skel {pb : Nat} {S S' : St} (hm : S.mb = S'.mb) (h : skel S.ns = skel S'.ns) {k : Nat} (hk : Own pb S k) : Own pb S' k := by
  rcases hk with hk | hk | ⟨n, hn, e⟩
  · exact .inl hk
  · exact .inr (.inl (hm ▸ hk))
  · have : k ∈ S.ns.map Nd.blk := by subst e; exact List.mem_map_of_mem hn
    rw [skel_blks h] at this
    obtain ⟨n', hn', e'⟩ := List.mem_map.1 this
    exact .inr (.inr ⟨n', hn', e'⟩)

theorem Lies.put {w : World} {pb : Nat} {S : St} (h : Lies w pb S) {i : Nat} {n : Nd} (hi : S.ns[i]? = some n) (l : Nat) (hl : n.lab ≠ l) :
    Lies ((w.setCell ⟨n.blk, 1, none⟩ (.int .u64 l)).setCell ⟨pb, 6, none⟩ (.int .u64 ((S.writes : Int) + 1))) pb (S.put i n l) := by
  have hne := h.ne_head hi
  have hs : skel (S.put i n l).ns = skel S.ns := skel_set hi l
  refine ⟨?_, fun j m hj => ?_, ?_, ?_⟩
  · have h1 := (h.head.other (a := ⟨n.blk, 1, none⟩) (Ne.symm hne) (.int .u64 l)).set 6 (.int .u64 ((S.writes : Int) + 1))
    have e : (listCells S).setIfInBounds 6 (.int .u64 ((S.writes : Int) + 1)) = listCells (S.put i n l) := by
      have hp := skel_ptrN hs 0
      simp [listCells, St.put, hl]
      exact hp.symm
    rw [← e]
    exact h1
  · have hmb : m.blk ≠ pb := by
      intro e
      have hj' : ∃ m', S.ns[j]? = some m' ∧ m'.blk = m.blk := by
        have := skel_at hs j
        rw [hj] at this
        cases hm : S.ns[j]? with
        | none => rw [hm] at this; simp at this
        | some m' => rw [hm] at this; simp at this; exact ⟨m', rfl, this.1.symm⟩
      obtain ⟨m', hm', e'⟩ := hj'
      exact h.ne_head hm' (e'.trans e)
    refine IsCells.other ?_ hmb _
    simp only [St.put, List.getElem?_set] at hj
    by_cases e : i = j
    · subst e
      rw [if_pos rfl] at hj
      split at hj
      · simp only [Option.some.injEq] at hj
        subst hj
        have h1 := (h.node i n hi).set 1 (.int .u64 l)
        have e : (nodeCells pb S.ns i n).setIfInBounds 1 (.int .u64 l) = nodeCells pb (S.put i n l).ns i { n with lab := l } := by
          simp [nodeCells, skel_ptrN hs, skel_prevOf hs]
        rw [← e]
        exact h1
      · simp at hj
    · rw [if_neg e] at hj
      have hb : m.blk ≠ n.blk := fun e' => e (h.index hj hi e').symm
      have h1 := (h.node j m hj).other (a := ⟨n.blk, 1, none⟩) hb (.int .u64 l)
      have e : nodeCells pb S.ns j m = nodeCells pb (S.put i n l).ns j m := by
        simp [nodeCells, skel_ptrN hs, skel_prevOf hs]
      rw [← e]
      exact h1
  · rw [skel_tags hs]; exact h.apart
  · rw [skel_length hs]
    have hmap := h.map
    have e1 : blkOf (S.put i n l).ns = blkOf S.ns := funext fun t => skel_blkOf hs t
    rw [e1]
    refine MapAt.of_blocks (w := w) hmap (fun k hk => ?_)
    rw [Below.heap_setCell, Below.heap_setCell]
    · intro e
      simp only at e
      have h1 := h.node i n hi
      rw [show S.mb = some k from hk] at hmap
      obtain ⟨D, ⟨es, clock, hb, _⟩, _⟩ := hmap
      obtain ⟨T, h1⟩ := h1
      rw [← e, hb] at h1
      simp at h1
    · intro e
      simp only at e
      have h1 := h.head
      rw [show S.mb = some k from hk] at hmap
      obtain ⟨D, ⟨es, clock, hb, _⟩, _⟩ := hmap
      obtain ⟨T, h1⟩ := h1
      rw [← e, hb] at h1
      simp at h1

set_option maxHeartbeats 400000 in
theorem write_new (w : World) (pb b x l wr : Nat) (hl : w.cell? ⟨b, 1, none⟩ = some (.int .u64 (x : Int))) (hw : w.cell? ⟨pb, 6, none⟩ = some (.int .u64 (wr : Int))) (hf : ∀ k, w.frozen? ⟨b, k, none⟩ = false) (hg : ∀ k, w.frozen? ⟨pb, k, none⟩ = false) (hne : b ≠ pb) (hx : x ≠ l) (hwr : wr < 18446744073709551615) :
    Calls Try.prog 32 #[.pointer (some ⟨pb, 0, none⟩), .pointer (some ⟨b, 0, none⟩), .int .u64 (l : Int)] w fun e w' => e = .returned (.tuple #[]) ∧ w' = (w.setCell ⟨b, 1, none⟩ (.int .u64 l)).setCell ⟨pb, 6, none⟩ (.int .u64 ((wr : Int) + 1)) := by
  have hx' : ((x : Int) == (l : Int)) = false := beq_eq_false_iff_ne.2 (by omega)
  have hne' : pb ≠ b := Ne.symm hne
  have hw1 : (w.setCell ⟨b, 1, none⟩ (.int .u64 l)).cell? ⟨pb, 6, none⟩ = some (.int .u64 (wr : Int)) := by
    rw [World.cell?_of_block (w := w) (Below.heap_setCell _ _ _ _ hne'), hw]
  have hf1 : (w.setCell ⟨b, 1, none⟩ (.int .u64 l)).frozen? ⟨pb, 6, none⟩ = false := by
    rw [World.frozen?_of_block (w := w) (Below.heap_setCell _ _ _ _ hne'), hg]
  go_enter Try.func32, Try.ntmps32
  go_wp2
  go_end0
  exact ⟨rfl, rfl⟩

set_option maxHeartbeats 400000 in
theorem write_same (w : World) (pb b l : Nat) (hl : w.cell? ⟨b, 1, none⟩ = some (.int .u64 (l : Int))) :
    Calls Try.prog 32 #[.pointer (some ⟨pb, 0, none⟩), .pointer (some ⟨b, 0, none⟩), .int .u64 (l : Int)] w fun e w' => e = .returned (.tuple #[]) ∧ w' = w := by
  go_enter Try.func32, Try.ntmps32
  go_wp2
  exact bodyPost_ret (results_none rfl _ _ _) rfl ⟨rfl, rfl⟩

theorem write_any (w : World) (pb : Nat) (S : St) (i : Nat) (n : Nd) (l : Nat) (h : Lies w pb S) (hi : S.ns[i]? = some n) (hwr : S.writes < 18446744073709551615) :
    Calls Try.prog 32 #[.pointer (some ⟨pb, 0, none⟩), .pointer (some ⟨n.blk, 0, none⟩), .int .u64 (l : Int)] w fun e w' => e = .returned (.tuple #[]) ∧ Lies w' pb (S.put i n l) ∧ Turn (Own pb S) w w' := by
  have hl : w.cell? ⟨n.blk, 1, none⟩ = some (.int .u64 (n.lab : Int)) := by rw [(h.node i n hi).cell]; rfl
  by_cases e : n.lab = l
  · subst e
    refine (write_same w pb n.blk n.lab hl).mono ?_
    rintro e w' ⟨rfl, rfl⟩
    have e1 : S.put i n n.lab = S := by
      have : S.ns.set i n = S.ns := by
        obtain ⟨hlt, he⟩ := List.getElem?_eq_some_iff.1 hi
        rw [← he]; exact List.set_getElem_self hlt
      cases S
      simp only [St.put, if_pos, Nat.add_zero, St.mk.injEq, true_and, and_true]
      exact this
    rw [e1]
    exact ⟨rfl, h, Turn.refl _ _⟩
  · refine (write_new w pb n.blk n.lab l S.writes hl (by rw [h.head.cell]; rfl) (fun k => (h.node i n hi).frozen k) (fun k => h.head.frozen k) (h.ne_head hi) e hwr).mono ?_
    rintro e' w' ⟨rfl, rfl⟩
    exact ⟨rfl, h.put hi l e, ((Turn.refl _ _).setCell (.inr (.inr ⟨n, List.mem_of_getElem? hi, rfl⟩)) _).setCell (.inl rfl) _⟩

end Go.Proofs.Ytkppcnednfjbhaa
