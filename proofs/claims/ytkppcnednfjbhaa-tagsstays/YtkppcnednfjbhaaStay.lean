/- TagsStays' memory: both lists, a copy of the order, and the labels as they were; what a further label, and an act that gives no tag, leave of it. -/
import Derived.Test.YtkppcnednfjbhaaDoes2
namespace Go.Proofs.Ytkppcnednfjbhaa
open Go.RowKit Go.Maps

/-- Block rb is a row of our own that holds M. -/
def RowIs (w : World) (e : TypeId) (M : List Nat) (rb cap : Nat) : Prop := ∃ cur, w.heap[rb]? = some (.cells cur e (0, 0)) ∧ M.length ≤ cap ∧ cap ≤ maxLen ∧ cur.size = cap ∧ cur.toList.take M.length = rowVals M

theorem RowIs.lt {w : World} {e : TypeId} {M : List Nat} {rb cap : Nat} (h : RowIs w e M rb cap) : rb < w.heap.size := by
  obtain ⟨cur, hb, _⟩ := h
  exact (Array.getElem?_eq_some_iff.1 hb).1
theorem RowIs.of_block {w w' : World} {e : TypeId} {M : List Nat} {rb cap : Nat} (h : RowIs w e M rb cap) (hb : w'.heap[rb]? = w.heap[rb]?) : RowIs w' e M rb cap := by
  obtain ⟨cur, h1, r⟩ := h
  exact ⟨cur, hb.trans h1, r⟩
theorem RowIs.cell {w : World} {e : TypeId} {M : List Nat} {rb cap : Nat} (h : RowIs w e M rb cap) {i t : Nat} (hi : M[i]? = some t) : w.cell? ⟨rb, i, none⟩ = some (.int .u64 (t : Int)) := by
  obtain ⟨cur, hb, h1, h2, h3, h4⟩ := h
  have hlt := (List.getElem?_eq_some_iff.1 hi).1
  have h5 := congrArg (fun l => l[i]?) h4
  simp only [rowVals, List.getElem?_map, hi, Option.map_some, List.getElem?_take_of_lt hlt] at h5
  simp [World.cell?, hb]
  simpa using h5
theorem RowIs.owns {w : World} {e : TypeId} {M : List Nat} {rb cap : Nat} (h : RowIs w e M rb cap) : w.ownsRow 0 e 1 (.slice (some ⟨rb, 0, none⟩) M.length cap) M.length (rowVals M) := by
  obtain ⟨cur, h1, h2, h3, h4, h5⟩ := h
  exact ⟨by simp [rowVals], .inr ⟨rb, cap, cur, rfl, Nat.zero_le _, h1, h2, h3, by omega, by simpa using h5⟩⟩
theorem rowIs_of {w : World} {e : TypeId} {g1 cap1 n : Nat} {M : List Nat} (hn : M.length = n) (h : w.ownsRow 0 e 1 (.slice (some ⟨g1, 0, none⟩) n cap1) n (rowVals M)) : RowIs w e M g1 cap1 := by
  subst hn
  rcases h.2 with ⟨e, _⟩ | ⟨g, cap, cur, e, _, hh, h1, h2, h3, h4⟩
  · cases e
  · simp only [Value.slice.injEq, Option.some.injEq, Addr.mk.injEq, true_and, and_true] at e
    obtain ⟨rfl, rfl⟩ := e
    exact ⟨cur, hh, h1, h2, by omega, by simpa using h4⟩

theorem info25 : (Try.prog.info? 25).map (fun i => (i.zero, i.size, i.bytes)) = some (some (.int .u64 0), 1, 8) := by kernel_rfl

/-- A label more behind the row of labels. -/
theorem run_put25 (w : World) (ty : TypeId) (g0 cap0 x : Nat) (M : List Nat) (hown : RowIs w 25 M g0 cap0) (ad : Addr) (hnews : ∀ j u, [(.int .u64 (x : Int) : Value)][j]? = some u → w.cell? (ad.add j) = some u) (h63 : M.length ≤ 16384) :
    ∃ g1 cap1 w', (Builtin.append_ #[47, 47] ty #[.slice (some ⟨g0, 0, none⟩) M.length cap0, .slice (some ad) 1 1]).run Try.prog w = .ok (.slice (some ⟨g1, 0, none⟩) (M.length + 1) cap1) w' ∧ RowIs w' 25 (M ++ [x]) g1 cap1 ∧ w.grownBy w' (some g0) ∧ (g1 = g0 ∨ g1 = w.heap.size) := by
  obtain ⟨i0, hi, hz0, hz1, hz2⟩ := info_parts info25
  obtain ⟨v', w', hr, h2, h3, h4, h5⟩ := run_append_own_at (P := Try.prog) w 0 47 ty 25 i0 (.int .u64 0) 1 8 Try.underlying47 hi hz0 hz1 hz2 rfl (by decide) _ M.length (rowVals M) hown.owns ad 1 1 [.int .u64 (x : Int)] rfl hnews (by simp [Value.oneCell']) (by unfold maxLen; omega) (by omega) (Nat.zero_le _)
  rcases h2.2 with ⟨e, _⟩ | ⟨g, cap, cur, rfl, hg, hh, r⟩
  · rw [h4] at e
    simp at e
  · refine ⟨g, cap, w', hr, rowIs_of (M := M ++ [x]) (n := M.length + 1) (by simp) (by rw [show rowVals (M ++ [x]) = rowVals M ++ [.int .u64 (x : Int)] from by simp [rowVals]]; exact h2), h3, ?_⟩
    simpa [Value.ownBlock] using h5

/-- Both lists, the copy of the order, and the labels as they were. -/
structure Stay (B : Nat) (w0 w : World) (pb db : Nat) (S : St) (sl : Option (Nat × Nat)) (T : List Nat) (g : Nat) (T0 : List Nat) (lb lcap : Nat) (W : List Nat) (wb wcap : Nat) : Prop where
  both : Both B w pb db S sl T g
  below : Below B w0 w
  base : B ≤ w0.heap.size
  lrow : RowIs w 26 T0 lb lcap
  wrow : RowIs w 25 W wb wcap
  lfree : ¬ Own pb S lb ∧ ¬ ROwn db sl lb ∧ B ≤ lb
  wfree : ¬ Own pb S wb ∧ ¬ ROwn db sl wb ∧ B ≤ wb
  ne : lb ≠ wb

theorem Stay.drewN {B : Nat} {w0 w : World} {pb db : Nat} {S : St} {sl : Option (Nat × Nat)} {T : List Nat} {g : Nat} {T0 : List Nat} {lb lcap : Nat} {W : List Nat} {wb wcap : Nat} (h : Stay B w0 w pb db S sl T g T0 lb lcap W wb wcap) (n : Nat) : Stay B w0 (w.drewN n) pb db S sl T g T0 lb lcap W wb wcap :=
  ⟨h.both.drewN n, ⟨h.below.os, h.below.tape, h.below.output, h.below.size, h.below.block⟩, h.base, h.lrow, h.wrow, h.lfree, h.wfree, h.ne⟩

theorem Stay.alloc {B : Nat} {w0 w : World} {pb db : Nat} {S : St} {sl : Option (Nat × Nat)} {T : List Nat} {g : Nat} {T0 : List Nat} {lb lcap : Nat} {W : List Nat} {wb wcap : Nat} (h : Stay B w0 w pb db S sl T g T0 lb lcap W wb wcap) (o : Obj) : Stay B w0 (w.alloc o) pb db S sl T g T0 lb lcap W wb wcap :=
  ⟨h.both.alloc o, h.below.alloc (Nat.le_trans h.base h.below.size) o, h.base, h.lrow.of_block (Below.heap_alloc _ _ _ h.lrow.lt), h.wrow.of_block (Below.heap_alloc _ _ _ h.wrow.lt), h.lfree, h.wfree, h.ne⟩

theorem stay_start {B : Nat} {w0 wr w2 : World} {pb db : Nat} {S : St} {sl : Option (Nat × Nat)} {T : List Nat} {g lb lcap : Nat} (h : Both B wr pb db S sl T g) (hb : Below B w0 wr) (hB : B ≤ w0.heap.size) (hrow : RowIs w2 26 T lb lcap)
    (hg : ((wr.alloc (.cells #[] 25)).alloc (.cells #[] 26)).grownBy w2 (some (wr.heap.size + 1))) (hl : lb = wr.heap.size + 1 ∨ lb = ((wr.alloc (.cells #[] 25)).alloc (.cells #[] 26)).heap.size) : Stay B w0 w2 pb db S sl T g T lb lcap [] wr.heap.size 0 := by
  have hbs := Nat.le_trans hB hb.size
  have es : ((wr.alloc (.cells #[] 25)).alloc (.cells #[] 26)).heap.size = wr.heap.size + 2 := by simp
  have e1 : (wr.alloc (.cells #[] 25)).heap.size = wr.heap.size + 1 := by simp
  have ht : Turn (fun _ => False) wr w2 := by
    have h1 : Turn (fun _ => False) wr ((wr.alloc (.cells #[] 25)).alloc (.cells #[] 26)) := ((Turn.refl _ wr).alloc _).alloc _
    exact ⟨hg.os.trans h1.os, hg.tape.trans h1.tape, hg.output.trans h1.output, Nat.le_trans h1.size hg.size, fun k hk hf => (hg.block k (by omega) (fun e => by simp only [Option.some.injEq] at e; omega)).trans (h1.block k hk hf)⟩
  have hlb : wr.heap.size + 1 ≤ lb := by rcases hl with e | e <;> omega
  refine ⟨h.of_turn ht, hb.trans (ht.below hbs (fun k hf => hf.elim)), hB, hrow, ?_, ?_, ?_, by omega⟩
  · have h1 : RowIs (wr.alloc (.cells #[] 25)) 25 [] wr.heap.size 0 := ⟨#[], heap_alloc_new wr _, Nat.le_refl _, Nat.zero_le _, rfl, rfl⟩
    refine h1.of_block ?_
    rw [hg.block _ (by omega) (fun e => by simp only [Option.some.injEq] at e; omega), Below.heap_alloc _ _ _ (by omega)]
  · exact ⟨fun hk => by have := h.p.lies.own_lt hk; omega, fun hk => by have := h.d.own_lt hk; omega, by omega⟩
  · exact ⟨fun hk => by have := h.p.lies.own_lt hk; omega, fun hk => by have := h.d.own_lt hk; omega, by omega⟩

/-- A label more. -/
theorem Stay.more {B : Nat} {w0 w w' : World} {pb db : Nat} {S : St} {sl : Option (Nat × Nat)} {T : List Nat} {g : Nat} {T0 : List Nat} {lb lcap : Nat} {W : List Nat} {wb wcap : Nat} (h : Stay B w0 w pb db S sl T g T0 lb lcap W wb wcap) {W' : List Nat} {g1 cap1 : Nat}
    (hr : RowIs w' 25 W' g1 cap1) (hg : w.grownBy w' (some wb)) (hl : g1 = wb ∨ g1 = w.heap.size) : Stay B w0 w' pb db S sl T g T0 lb lcap W' g1 cap1 := by
  have hbs := Nat.le_trans h.base h.below.size
  have ht : Turn (fun k => k = wb) w w' := ⟨hg.os, hg.tape, hg.output, hg.size, fun k hk hkw => hg.block k hk (fun e => hkw (Option.some.inj e))⟩
  refine ⟨⟨h.both.p.of_turn ht (fun k hk e => h.wfree.1 (e ▸ hk)), h.both.d.of_turn ht (fun k hk e => h.wfree.2.1 (e ▸ hk)), h.both.apart, h.both.pbase, h.both.dbase⟩, h.below.trans (ht.below hbs (fun k e => e ▸ h.wfree.2.2)), h.base,
    h.lrow.of_block (hg.block _ h.lrow.lt (fun e => h.ne (Option.some.inj e))), hr, h.lfree, ?_, ?_⟩
  · rcases hl with rfl | rfl
    · exact h.wfree
    · exact ⟨fun hk => by have := h.both.p.lies.own_lt hk; omega, fun hk => by have := h.both.d.own_lt hk; omega, hbs⟩
  · rcases hl with rfl | rfl
    · exact h.ne
    · have := h.lrow.lt; omega

/-- An act that gives no tag. -/
theorem Stay.act {B : Nat} {w0 w w' : World} {pb db : Nat} {S : St} {sl : Option (Nat × Nat)} {T : List Nat} {g : Nat} {T0 : List Nat} {lb lcap : Nat} {W : List Nat} {wb wcap : Nat} (h : Stay B w0 w pb db S sl T g T0 lb lcap W wb wcap) (hk : Kept B w pb db S sl g w') :
    ∃ S' sl' T', Stay B w0 w' pb db S' sl' T' g T0 lb lcap W wb wcap ∧ S'.writes = S.writes ∧ (∀ n ∈ S'.ns, n ∈ S.ns) := by
  obtain ⟨S', sl', T', h1, h2, h3, h4, h5, h6⟩ := hk
  have hbs := Nat.le_trans h.base h.below.size
  have hrow : ∀ {k}, k < w.heap.size → ¬ Own pb S k → ¬ ROwn db sl k → w'.heap[k]? = w.heap[k]? := fun hk a b => h4.block _ hk (fun hh => hh.elim a b)
  refine ⟨S', sl', T', ⟨h1, h.below.trans (h4.below hbs (fun k hk => hk.elim (h.both.pbase k) (h.both.dbase k))), h.base, h.lrow.of_block (hrow h.lrow.lt h.lfree.1 h.lfree.2.1), h.wrow.of_block (hrow h.wrow.lt h.wfree.1 h.wfree.2.1), ?_, ?_, h.ne⟩, h2, h3⟩
  · refine ⟨fun hk => h.lfree.1 (h5 _ hk), fun hk => ?_, h.lfree.2.2⟩
    rcases h6 _ hk with h7 | h7
    · exact h.lfree.2.1 h7
    · have := h.lrow.lt; omega
  · refine ⟨fun hk => h.wfree.1 (h5 _ hk), fun hk => ?_, h.wfree.2.2⟩
    rcases h6 _ hk with h7 | h7
    · exact h.wfree.2.1 h7
    · have := h.wrow.lt; omega

end Go.Proofs.Ytkppcnednfjbhaa
