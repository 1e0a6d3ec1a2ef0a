/- A place put into the chain, or taken out of it: what the links must then be. -/
import Derived.Test.YtkppcnednfjbhaaWrite
namespace Go.Proofs.Ytkppcnednfjbhaa
open Go.RowKit Go.Maps

def ins {α : Type} (c : Nat) (x : α) (l : List α) : List α := l.take c ++ x :: l.drop c
def del {α : Type} (c : Nat) (l : List α) : List α := l.take c ++ l.drop (c + 1)

theorem ins_get {α : Type} {c : Nat} (x : α) {l : List α} (hc : c ≤ l.length) (j : Nat) : (ins c x l)[j]? = if j < c then l[j]? else if j = c then some x else l[j - 1]? := by
  unfold ins
  have hl : (l.take c).length = c := by simp; omega
  by_cases h1 : j < c
  · rw [if_pos h1, List.getElem?_append_left (by omega), List.getElem?_take_of_lt h1]
  · rw [if_neg h1, List.getElem?_append_right (by omega), hl]
    by_cases h2 : j = c
    · subst h2; simp
    · rw [if_neg h2]
      obtain ⟨i, rfl⟩ : ∃ i, j = c + 1 + i := ⟨j - c - 1, by omega⟩
      rw [show c + 1 + i - c = i + 1 from by omega, List.getElem?_cons_succ, List.getElem?_drop]
      congr 1
      omega

theorem del_get {α : Type} {c : Nat} {l : List α} (hc : c ≤ l.length) (j : Nat) : (del c l)[j]? = if j < c then l[j]? else l[j + 1]? := by
  unfold del
  have hl : (l.take c).length = c := by simp; omega
  by_cases h1 : j < c
  · rw [if_pos h1, List.getElem?_append_left (by omega), List.getElem?_take_of_lt h1]
  · rw [if_neg h1, List.getElem?_append_right (by omega), hl, List.getElem?_drop]
    congr 1
    omega

theorem ins_length {α : Type} {c : Nat} (x : α) {l : List α} : (ins c x l).length = l.length + 1 := by
  unfold ins; simp; omega
theorem del_length {α : Type} {c : Nat} {l : List α} (hc : c < l.length) : (del c l).length = l.length - 1 := by
  unfold del; simp; omega
theorem ins_map {α β : Type} (f : α → β) (c : Nat) (x : α) (l : List α) : (ins c x l).map f = ins c (f x) (l.map f) := by
  simp [ins, List.map_take, List.map_drop]
theorem del_map {α β : Type} (f : α → β) (c : Nat) (l : List α) : (del c l).map f = del c (l.map f) := by
  simp [del, List.map_take, List.map_drop]
theorem mem_ins {α : Type} {c : Nat} {x y : α} {l : List α} : y ∈ ins c x l ↔ y = x ∨ y ∈ l := by
  have h2 : y ∈ l ↔ y ∈ l.take c ∨ y ∈ l.drop c := by rw [← List.mem_append, List.take_append_drop]
  unfold ins
  rw [List.mem_append, List.mem_cons, h2]
  constructor
  · rintro (h | h | h)
    · exact .inr (.inl h)
    · exact .inl h
    · exact .inr (.inr h)
  · rintro (h | h | h)
    · exact .inr (.inl h)
    · exact .inl h
    · exact .inr (.inr h)
theorem mem_del {α : Type} {c : Nat} {y : α} {l : List α} (h : y ∈ del c l) : y ∈ l := by
  unfold del at h
  rcases List.mem_append.1 h with h | h
  · exact List.mem_of_mem_take h
  · exact List.mem_of_mem_drop h
theorem ins_nodup {c : Nat} {x : Nat} {l : List Nat} (h : l.Nodup) (hx : x ∉ l) : (ins c x l).Nodup := by
  have h2 : (x :: (l.take c ++ l.drop c)).Nodup := by
    rw [List.take_append_drop]; exact List.nodup_cons.2 ⟨hx, h⟩
  exact (List.perm_middle.nodup_iff).2 h2
theorem del_nodup {c : Nat} {l : List Nat} (h : l.Nodup) : (del c l).Nodup := by
  have : (del c l).Sublist l := by
    unfold del
    have h1 := List.Sublist.append (List.Sublist.refl (l.take c)) (List.drop_sublist_drop_left l (show c ≤ c + 1 by omega))
    rw [List.take_append_drop] at h1
    exact h1
  exact this.nodup h

theorem ptrN_ins {ns : List Nd} {c : Nat} (x : Nd) (hc : c ≤ ns.length) (j : Nat) : ptrN (ins c x ns) j = if j < c then ptrN ns j else if j = c then some ⟨x.blk, 0, none⟩ else ptrN ns (j - 1) := by
  unfold ptrN
  rw [ins_get x hc]
  split
  · rfl
  · split <;> rfl
theorem ptrN_del {ns : List Nd} {c : Nat} (hc : c ≤ ns.length) (j : Nat) : ptrN (del c ns) j = if j < c then ptrN ns j else ptrN ns (j + 1) := by
  unfold ptrN
  rw [del_get hc]
  split <;> rfl

theorem blkOf_ins {ns : List Nd} {c : Nat} (x : Nd) (hx : x.tag ∉ ns.map Nd.tag) (t : Nat) : blkOf (ins c x ns) t = if t = x.tag then some x.blk else blkOf ns t := by
  unfold blkOf ins
  have hsplit := List.take_append_drop c ns
  rw [List.find?_append, List.find?_cons]
  by_cases e : t = x.tag
  · subst e
    rw [if_pos rfl]
    have : (ns.take c).find? (fun n => n.tag == x.tag) = none := by
      rw [List.find?_eq_none]
      intro n hn hh
      exact hx (List.mem_map.2 ⟨n, List.mem_of_mem_take hn, by simpa using hh⟩)
    simp [this]
  · rw [if_neg e]
    have h1 : (x.tag == t) = false := beq_eq_false_iff_ne.2 (Ne.symm e)
    rw [h1]
    conv => rhs; rw [← hsplit, List.find?_append]

theorem blkOf_del {ns : List Nd} {c : Nat} {x : Nd} (hc : ns[c]? = some x) (hd : (ns.map Nd.tag).Nodup) (t : Nat) : blkOf (del c ns) t = if t = x.tag then none else blkOf ns t := by
  have hlt := (List.getElem?_eq_some_iff.1 hc).1
  have e : ns = ins c x (del c ns) := by
    apply List.ext_getElem?
    intro j
    have hl : c ≤ (del c ns).length := by rw [del_length hlt]; omega
    rw [ins_get x hl, del_get (by omega), del_get (by omega)]
    by_cases h1 : j < c
    · rw [if_pos h1, if_pos h1]
    · rw [if_neg h1]
      by_cases h2 : j = c
      · rw [if_pos h2, h2, hc]
      · rw [if_neg h2, if_neg (by omega)]
        congr 1
        omega
  have hx : x.tag ∉ (del c ns).map Nd.tag := by
    have h3 := hd
    rw [e, ins_map] at h3
    have h4 : (x.tag :: ((del c ns).map Nd.tag)).Nodup := by
      have := (List.perm_middle (a := x.tag) (l₁ := ((del c ns).map Nd.tag).take c) (l₂ := ((del c ns).map Nd.tag).drop c)).nodup_iff.1 h3
      rw [List.take_append_drop] at this
      exact this
    exact (List.nodup_cons.1 h4).1
  have h5 := blkOf_ins (c := c) x hx t
  rw [← e] at h5
  by_cases h6 : t = x.tag
  · rw [if_pos h6]
    unfold blkOf
    rw [Option.map_eq_none_iff, List.find?_eq_none]
    intro n hn hh
    apply hx
    rw [← h6]
    exact List.mem_map.2 ⟨n, hn, by simpa using hh⟩
  · rw [if_neg h6, h5, if_neg h6]

/-- What the blocks must hold behind the links' turn, for a place put in at c. -/
theorem lies_ins {X : World} {pb : Nat} {S : St} {c : Nat} {x : Nd} {m : Option Nat} {g wr : Nat} (hc : c ≤ S.ns.length) (hx : x.tag ∉ S.ns.map Nd.tag) (hd : (S.ns.map Nd.tag).Nodup)
    (H1 : IsCells X pb #[.map m, .int .u64 0, .int .u64 0, .pointer none, .pointer (if c = 0 then some ⟨x.blk, 0, none⟩ else ptrN S.ns 0), .int .u64 g, .int .u64 wr])
    (H2 : ∀ j n, S.ns[j]? = some n → IsCells X n.blk #[.int .u64 n.tag, .int .u64 n.lab, .pointer (if j = c then some ⟨x.blk, 0, none⟩ else prevOf pb S.ns j), .pointer (if j + 1 = c then some ⟨x.blk, 0, none⟩ else ptrN S.ns (j + 1))])
    (H3 : IsCells X x.blk #[.int .u64 x.tag, .int .u64 x.lab, .pointer (prevOf pb S.ns c), .pointer (ptrN S.ns c)])
    (H4 : MapAt X m (fun t => if t = x.tag then some x.blk else blkOf S.ns t) (S.ns.length + 1)) : Lies X pb { mb := m, ns := ins c x S.ns, given := g, writes := wr } := by
  refine ⟨?_, fun j n hj => ?_, ?_, ?_⟩
  · have e : listCells { mb := m, ns := ins c x S.ns, given := g, writes := wr } = #[.map m, .int .u64 0, .int .u64 0, .pointer none, .pointer (if c = 0 then some ⟨x.blk, 0, none⟩ else ptrN S.ns 0), .int .u64 g, .int .u64 wr] := by
      have : ptrN (ins c x S.ns) 0 = if c = 0 then some ⟨x.blk, 0, none⟩ else ptrN S.ns 0 := by
        rw [ptrN_ins x hc]
        by_cases e : c = 0
        · subst e; rfl
        · rw [if_pos (by omega), if_neg e]
      simp [listCells, this]
    rw [e]; exact H1
  · rw [show ({ mb := m, ns := ins c x S.ns, given := g, writes := wr } : St).ns = ins c x S.ns from rfl] at hj ⊢
    rw [ins_get x hc] at hj
    unfold nodeCells
    by_cases h1 : j < c
    · rw [if_pos h1] at hj
      have h2 := H2 j n hj
      rw [if_neg (by omega)] at h2
      have e1 : prevOf pb (ins c x S.ns) j = prevOf pb S.ns j := by
        cases j with
        | zero => rfl
        | succ i => simp only [prevOf]; rw [ptrN_ins x hc, if_pos (by omega)]
      have e2 : ptrN (ins c x S.ns) (j + 1) = if j + 1 = c then some ⟨x.blk, 0, none⟩ else ptrN S.ns (j + 1) := by
        rw [ptrN_ins x hc]
        by_cases e : j + 1 = c
        · rw [if_neg (by omega), if_pos e, if_pos e]
        · rw [if_pos (by omega), if_neg e]
      rw [e1, e2]; exact h2
    · rw [if_neg h1] at hj
      by_cases h2 : j = c
      · rw [if_pos h2] at hj
        cases hj
        have e1 : prevOf pb (ins c x S.ns) j = prevOf pb S.ns c := by
          subst h2
          cases j with
          | zero => rfl
          | succ i => simp only [prevOf]; rw [ptrN_ins x hc, if_pos (by omega)]
        have e2 : ptrN (ins c x S.ns) (j + 1) = ptrN S.ns c := by
          rw [ptrN_ins x hc, if_neg (by omega), if_neg (by omega)]
          subst h2; rfl
        rw [e1, e2]; exact H3
      · rw [if_neg h2] at hj
        obtain ⟨i, rfl⟩ : ∃ i, j = i + 1 := ⟨j - 1, by omega⟩
        have h3 := H2 i n hj
        have e1 : prevOf pb (ins c x S.ns) (i + 1) = if i = c then some ⟨x.blk, 0, none⟩ else prevOf pb S.ns i := by
          simp only [prevOf]
          rw [ptrN_ins x hc, if_neg (by omega)]
          by_cases e : i = c
          · rw [if_pos e, if_pos e]
          · rw [if_neg e, if_neg e]
            cases i with
            | zero => omega
            | succ k => rfl
        have e2 : ptrN (ins c x S.ns) (i + 1 + 1) = if i + 1 = c then some ⟨x.blk, 0, none⟩ else ptrN S.ns (i + 1) := by
          rw [ptrN_ins x hc, if_neg (by omega), if_neg (by omega), if_neg (by omega)]
          rfl
        rw [e1, e2]; exact h3
  · show ((ins c x S.ns).map Nd.tag).Nodup
    rw [ins_map]
    exact ins_nodup hd hx
  · show MapAt X m (blkOf (ins c x S.ns)) (ins c x S.ns).length
    rw [ins_length]
    have : blkOf (ins c x S.ns) = fun t => if t = x.tag then some x.blk else blkOf S.ns t := funext fun t => blkOf_ins x hx t
    rw [this]; exact H4

end Go.Proofs.Ytkppcnednfjbhaa
