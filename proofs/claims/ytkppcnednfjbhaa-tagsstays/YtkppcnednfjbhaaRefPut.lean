/- What the document's list does when a tag comes or goes: the order with the tag put in, or taken out. -/
import Derived.Test.YtkppcnednfjbhaaRefReads
import Derived.Maps.AppendAt
import Derived.Deep.AppendSrc
namespace Go.Proofs.Ytkppcnednfjbhaa
open Go.RowKit Go.Maps

theorem info26 : (Try.prog.info? 26).map (fun i => (i.zero, i.size, i.bytes)) = some (some (.int .u64 0), 1, 8) := by kernel_rfl

/-- append onto a row of our own, from a row in memory: the new value written out. -/
theorem run_put (w : World) (ty : TypeId) (g0 n cap0 : Nat) (xs : List Value) (hown : w.ownsRow 0 26 1 (.slice (some ⟨g0, 0, none⟩) n cap0) n xs) (ad : Addr) (m c : Nat) (news : List Value) (hl : news.length = m) (hnews : ∀ j u, news[j]? = some u → w.cell? (ad.add j) = some u)
    (h1 : ∀ u ∈ news, u.oneCell' = true) (h63 : n + m ≤ 16384) :
    ∃ g1 cap1 w', (Builtin.append_ #[33, 33] ty #[.slice (some ⟨g0, 0, none⟩) n cap0, .slice (some ad) m c]).run Try.prog w = .ok (.slice (some ⟨g1, 0, none⟩) (n + m) cap1) w' ∧ w'.ownsRow 0 26 1 (.slice (some ⟨g1, 0, none⟩) (n + m) cap1) (n + m) (xs ++ news) ∧
      w.grownBy w' (some g0) ∧ (g1 = g0 ∨ g1 = w.heap.size) := by
  obtain ⟨i0, hi, hz0, hz1, hz2⟩ := info_parts info26
  obtain ⟨v', w', hr, h2, h3, h4, h5⟩ := run_append_own_at (P := Try.prog) w 0 33 ty 26 i0 (.int .u64 0) 1 8 Try.underlying33 hi hz0 hz1 hz2 rfl (by decide) (.slice (some ⟨g0, 0, none⟩) n cap0) n xs hown ad m c news (by omega) hnews h1 (by unfold maxLen; omega) (by omega) (Nat.zero_le _)
  rcases h2.2 with ⟨e, _⟩ | ⟨g, cap, cur, rfl, hg, hh, r⟩
  · rw [h4] at e
    simp at e
  · refine ⟨g, cap, w', hr, h2, h3, ?_⟩
    simpa [Value.ownBlock] using h5

/-- append of nothing: from a nil slice. -/
theorem run_put_nil (w : World) (ty : TypeId) (g0 n cap0 : Nat) (hn : n ≤ cap0) : (Builtin.append_ #[33, 33] ty #[.slice (some ⟨g0, 0, none⟩) n cap0, .slice none 0 0]).run Try.prog w = .ok (.slice (some ⟨g0, 0, none⟩) n cap0) w := by
  obtain ⟨i0, hi, hz0, hz1, hz2⟩ := info_parts info26
  have h := run_append_room_src (P := Try.prog) w 33 33 ty 26 i0 Try.underlying33 hi g0 0 n cap0 (.slice none 0 0) 0 [] (Src.ofNil w Try.underlying33 0) (by omega) (by simp) (by simp)
  simpa [World.setCells] using h

/-- The same at the operation, for the walk. -/
theorem wpList_put (w : World) {ops : Array Oper} {rest : List Oper} {o : Oper} {a : Act} {Q : Exit → Act → World → Prop} (hgd : o.guard = none) (s x : Operand)
    (ho : o.op = .call { callee := .builtin .append, args := #[s, x], argTypes := #[33, 33] })
    (g0 n cap0 : Nat) (xs : List Value) (hs : a.eval s = .slice (some ⟨g0, 0, none⟩) n cap0) (hown : w.ownsRow 0 26 1 (.slice (some ⟨g0, 0, none⟩) n cap0) n xs)
    (ad : Addr) (m c : Nat) (news : List Value) (hx : a.eval x = .slice (some ad) m c) (hl : news.length = m) (hnews : ∀ j u, news[j]? = some u → w.cell? (ad.add j) = some u) (h1 : ∀ u ∈ news, u.oneCell' = true) (h63 : n + m ≤ 16384)
    (h : ∀ g1 cap1 w', w'.ownsRow 0 26 1 (.slice (some ⟨g1, 0, none⟩) (n + m) cap1) (n + m) (xs ++ news) → w.grownBy w' (some g0) → (g1 = g0 ∨ g1 = w.heap.size) → wpList Try.prog ops Q rest (a.put o.dst (.slice (some ⟨g1, 0, none⟩) (n + m) cap1)) w') :
    wpList Try.prog ops Q (o :: rest) a w := by
  refine wpList_plain hgd fun K hK => ?_
  obtain ⟨g1, cap1, w', hr, h2, h3, h4⟩ := run_put w o.type g0 n cap0 xs hown ad m c news hl hnews h1 h63
  unfold Oper.wp execOp
  simp only [ho, resolve, invoke, builtin, Sem.run_bind, Sem.run_pure, Result.andThen_ok, List.map_toArray, List.map_cons, List.map_nil, hs, hx, hr]
  exact hK _ _ (h g1 cap1 w' h2 h3 h4)

theorem wpList_put_nil (w : World) {ops : Array Oper} {rest : List Oper} {o : Oper} {a : Act} {Q : Exit → Act → World → Prop} (hgd : o.guard = none) (s x : Operand)
    (ho : o.op = .call { callee := .builtin .append, args := #[s, x], argTypes := #[33, 33] })
    (g0 n cap0 : Nat) (hs : a.eval s = .slice (some ⟨g0, 0, none⟩) n cap0) (hx : a.eval x = .slice none 0 0) (hn : n ≤ cap0) (h : wpList Try.prog ops Q rest (a.put o.dst (.slice (some ⟨g0, 0, none⟩) n cap0)) w) :
    wpList Try.prog ops Q (o :: rest) a w := by
  refine wpList_plain hgd fun K hK => ?_
  unfold Oper.wp execOp
  simp only [ho, resolve, invoke, builtin, Sem.run_bind, Sem.run_pure, Result.andThen_ok, List.map_toArray, List.map_cons, List.map_nil, hs, hx, run_put_nil w o.type g0 n cap0 hn]
  exact hK _ _ h

theorem owns_empty (w : World) : (w.alloc (.cells #[] 26)).ownsRow 0 26 1 (.slice (some ⟨w.heap.size, 0, none⟩) 0 0) 0 [] :=
  World.ownsRow_made w #[] 0 (Nat.zero_le _) (Nat.zero_le _) rfl

theorem rowVals_one (L : List Nat) : ∀ u ∈ rowVals L, u.oneCell' = true := by
  intro u hu
  obtain ⟨t, _, rfl⟩ := List.mem_map.1 hu
  rfl

theorem add_zero_addr (rb o j : Nat) : (⟨rb, o, none⟩ : Addr).add j = ⟨rb, o + j, none⟩ := by unfold Addr.add; split <;> simp_all

/-- What a part of the row yields. -/
theorem RowAt.part {w : World} {L : List Nat} {rb cap : Nat} (h : RowAt w L (some (rb, cap))) (k : Nat) (M : List Nat) (hM : ∀ j x, M[j]? = some x → L[k + j]? = some x) : ∀ j u, (rowVals M)[j]? = some u → w.cell? ((⟨rb, k, none⟩ : Addr).add j) = some u := by
  intro j u hu
  rw [add_zero_addr]
  simp only [rowVals, List.getElem?_map, Option.map_eq_some_iff] at hu
  obtain ⟨x, hx, rfl⟩ := hu
  exact h.cell (hM j x hx)

theorem take_part (L : List Nat) (k : Nat) : ∀ j x, (L.take k)[j]? = some x → L[0 + j]? = some x := by
  intro j x hx
  rw [Nat.zero_add]
  by_cases e : j < k
  · rw [List.getElem?_take_of_lt e] at hx; exact hx
  · rw [List.getElem?_eq_none (by simp; omega)] at hx; cases hx
theorem drop_part (L : List Nat) (k : Nat) : ∀ j x, (L.drop k)[j]? = some x → L[k + j]? = some x := by
  intro j x hx
  rw [List.getElem?_drop] at hx; exact hx

theorem owns_row {w : World} {g1 cap1 : Nat} {M : List Nat} (h : w.ownsRow 0 26 1 (.slice (some ⟨g1, 0, none⟩) M.length cap1) M.length (rowVals M)) : RowAt w M (some (g1, cap1)) := by
  rcases h.2 with ⟨e, _⟩ | ⟨g, cap, cur, e, _, hh, h1, h2, h3, h4⟩
  · cases e
  · simp only [Value.slice.injEq, Option.some.injEq, Addr.mk.injEq, true_and, and_true] at e
    obtain ⟨rfl, rfl⟩ := e
    exact ⟨cur, hh, h1, h2, by omega, by simpa using h4⟩

/-- Under way: the list's block and its row as they are, and a new row that holds M. -/
structure Put (w0 w : World) (db rb cap : Nat) (L : List Nat) (gv : Int) (g1 cap1 : Nat) (M : List Nat) : Prop where
  head : IsCells w db #[.slice (some ⟨rb, 0, none⟩) L.length cap, .int .u64 gv]
  row : RowAt w L (some (rb, cap))
  own : w.ownsRow 0 26 1 (.slice (some ⟨g1, 0, none⟩) M.length cap1) M.length (rowVals M)
  new : w0.heap.size ≤ g1
  turn : Turn (fun b => b = db) w0 w
  old : db < w0.heap.size ∧ rb < w0.heap.size

theorem Put.alloc {w0 w : World} {db rb cap g1 cap1 : Nat} {L M : List Nat} {gv : Int} (h : Put w0 w db rb cap L gv g1 cap1 M) (o : Obj) : Put w0 (w.alloc o) db rb cap L gv g1 cap1 M :=
  ⟨h.head.alloc o, h.row.of_block (fun rb' cap' e => by
    cases e
    obtain ⟨cur, hb, _⟩ := h.row
    exact Below.heap_alloc _ _ _ (Array.getElem?_eq_some_iff.1 hb).1), h.own.alloc o, h.new, h.turn.alloc o, h.old⟩

theorem Put.drew {w0 w : World} {db rb cap g1 cap1 : Nat} {L M : List Nat} {gv : Int} (h : Put w0 w db rb cap L gv g1 cap1 M) : Put w0 w.drew db rb cap L gv g1 cap1 M :=
  ⟨h.head, h.row, h.own, h.new, h.turn.drew, h.old⟩

theorem Put.grown {w0 w w' : World} {db rb cap g1 cap1 g2 cap2 n : Nat} {L M N : List Nat} {gv : Int} (h : Put w0 w db rb cap L gv g1 cap1 M) (hn : n = (M ++ N).length) (hown : w'.ownsRow 0 26 1 (.slice (some ⟨g2, 0, none⟩) n cap2) n (rowVals M ++ rowVals N))
    (hg : w.grownBy w' (some g1)) (hl : g2 = g1 ∨ g2 = w.heap.size) : Put w0 w' db rb cap L gv g2 cap2 (M ++ N) := by
  have hs := h.turn.size
  have hn1 := h.new
  obtain ⟨ho1, ho2⟩ := h.old
  subst hn
  refine ⟨h.head.of_block (hg.block _ h.head.lt (fun e => by simp only [Option.some.injEq] at e; omega)), h.row.of_block (fun rb' cap' e => by
    cases e
    exact hg.block _ (by omega) (fun e => by simp only [Option.some.injEq] at e; omega)), ?_, ?_, ?_, h.old⟩
  · rw [show rowVals (M ++ N) = rowVals M ++ rowVals N from by simp [rowVals]]
    exact hown
  · rcases hl with hl | hl <;> omega
  · exact ⟨hg.os.trans h.turn.os, hg.tape.trans h.turn.tape, hg.output.trans h.turn.output, Nat.le_trans h.turn.size hg.size, fun k hk hkd =>
      (hg.block k (by omega) (fun e => by simp only [Option.some.injEq] at e; omega)).trans (h.turn.block k hk hkd)⟩

theorem Put.run {w0 w : World} {db rb cap g1 cap1 : Nat} {L M : List Nat} {gv : Int} (h : Put w0 w db rb cap L gv g1 cap1 M) (ty : TypeId) {n : Nat} (hM : M.length = n) (ad : Addr) (m c : Nat) (N : List Nat) (hN : N.length = m)
    (hnews : ∀ j u, (rowVals N)[j]? = some u → w.cell? (ad.add j) = some u) (h63 : n + m ≤ 16384) :
    ∃ g2 cap2 w', (Builtin.append_ #[33, 33] ty #[.slice (some ⟨g1, 0, none⟩) n cap1, .slice (some ad) m c]).run Try.prog w = .ok (.slice (some ⟨g2, 0, none⟩) (n + m) cap2) w' ∧ Put w0 w' db rb cap L gv g2 cap2 (M ++ N) := by
  subst hM
  obtain ⟨g2, cap2, w', hr, h2, h3, h4⟩ := run_put w ty g1 M.length cap1 (rowVals M) h.own ad m c (rowVals N) (by simp [rowVals, hN]) hnews (rowVals_one _) h63
  exact ⟨g2, cap2, w', hr, h.grown (by simp [hN]) h2 h3 h4⟩

/-- At the operation, for the walk. -/
theorem wpList_putS {w0 w : World} {db rb cap g1 cap1 : Nat} {L M : List Nat} {gv : Int} {ops : Array Oper} {rest : List Oper} {o : Oper} {a : Act} {Q : Exit → Act → World → Prop} (hgd : o.guard = none) (s x : Operand)
    (ho : o.op = .call { callee := .builtin .append, args := #[s, x], argTypes := #[33, 33] }) (h : Put w0 w db rb cap L gv g1 cap1 M) (n : Nat) (hM : M.length = n) (hs : a.eval s = .slice (some ⟨g1, 0, none⟩) n cap1)
    (ad : Addr) (m c : Nat) (N : List Nat) (hx : a.eval x = .slice (some ad) m c) (hN : N.length = m) (hnews : ∀ j u, (rowVals N)[j]? = some u → w.cell? (ad.add j) = some u) (h63 : n + m ≤ 16384)
    (hK : ∀ g2 cap2 w', Put w0 w' db rb cap L gv g2 cap2 (M ++ N) → wpList Try.prog ops Q rest (a.put o.dst (.slice (some ⟨g2, 0, none⟩) (n + m) cap2)) w') : wpList Try.prog ops Q (o :: rest) a w := by
  refine wpList_plain hgd fun K hK' => ?_
  obtain ⟨g2, cap2, w', hr, h2⟩ := h.run o.type hM ad m c N hN hnews h63
  unfold Oper.wp execOp
  simp only [ho, resolve, invoke, builtin, Sem.run_bind, Sem.run_pure, Result.andThen_ok, List.map_toArray, List.map_cons, List.map_nil, hs, hx, hr]
  exact hK' _ _ (hK g2 cap2 w' h2)

theorem Put.c0 {w0 w : World} {db rb cap g1 cap1 : Nat} {L M : List Nat} {gv : Int} (h : Put w0 w db rb cap L gv g1 cap1 M) : w.cell? ⟨db, 0, none⟩ = some (.slice (some ⟨rb, 0, none⟩) L.length cap) := by rw [h.head.cell]; rfl
theorem Put.c1 {w0 w : World} {db rb cap g1 cap1 : Nat} {L M : List Nat} {gv : Int} (h : Put w0 w db rb cap L gv g1 cap1 M) : w.cell? ⟨db, 1, none⟩ = some (.int .u64 gv) := by rw [h.head.cell]; rfl
theorem Put.fz {w0 w : World} {db rb cap g1 cap1 : Nat} {L M : List Nat} {gv : Int} (h : Put w0 w db rb cap L gv g1 cap1 M) (k : Nat) : w.frozen? ⟨db, k, none⟩ = false := h.head.frozen k

/-- The new row stored as the list's. -/
theorem Put.done {w0 w : World} {db rb cap g1 cap1 g : Nat} {L M : List Nat} (h : Put w0 w db rb cap L (g : Int) g1 cap1 M) : RefAt (w.setCell ⟨db, 0, none⟩ (.slice (some ⟨g1, 0, none⟩) M.length cap1)) db (some (g1, cap1)) M g ∧ Turn (fun b => b = db) w0 (w.setCell ⟨db, 0, none⟩ (.slice (some ⟨g1, 0, none⟩) M.length cap1)) := by
  have hne : g1 ≠ db := by have := h.new; have := h.old.1; omega
  refine ⟨⟨?_, ?_, ?_⟩, h.turn.setCell rfl _⟩
  · have := h.head.set 0 (.slice (some ⟨g1, 0, none⟩) M.length cap1)
    simpa [slv] using this
  · exact (owns_row h.own).of_block (fun rb' cap' e => by cases e; exact Below.heap_setCell _ _ _ _ hne)
  · intro rb' cap' e
    cases e
    exact hne

theorem put_start {w : World} {db rb cap g : Nat} {L : List Nat} (h : RefAt w db (some (rb, cap)) L g) (gv : Int) : Put w ((w.setCell ⟨db, 1, none⟩ (.int .u64 gv)).alloc (.cells #[] 26)) db rb cap L gv w.heap.size 0 [] := by
  have hne := h.ne rb cap rfl
  have hrs : rb < w.heap.size := h.own_lt (.inr ⟨cap, rfl⟩)
  refine ⟨(h.head.set 1 (.int .u64 gv)).alloc _, h.row.of_block (fun rb' cap' e => by
    cases e
    rw [Below.heap_alloc _ _ _ (by rw [size_set]; exact hrs), Below.heap_setCell _ _ _ _ hne]), ?_, Nat.le_refl _, ((Turn.refl (fun b => b = db) w).setCell (p := ⟨db, 1, none⟩) rfl _).alloc _, h.head.lt, hrs⟩
  have := owns_empty (w.setCell ⟨db, 1, none⟩ (.int .u64 gv))
  rw [size_set] at this
  exact this

set_option maxRecDepth 100000 in
set_option maxHeartbeats 1000000 in
theorem rput_some (w : World) (db rb cap k g : Nat) (L : List Nat) (t : Nat) (hat : Calls Try.prog 28 #[.pointer (some ⟨db, 0, none⟩), .int .u64 (t : Int)] w fun e w' => e = .returned (.int .i64 (k : Int)) ∧ w' = w)
    (h : RefAt w db (some (rb, cap)) L g) (hn : L.length < 8192) (hk : k ≤ L.length) (hg : g < 18446744073709551615) :
    Calls Try.prog 10 #[.pointer (some ⟨db, 0, none⟩), .int .u64 (t : Int)] w fun e w' => e = .returned (.tuple #[.int .u64 ((g : Int) + 1), .int .i64 0]) ∧
      ∃ g3 cap3, w.heap.size ≤ g3 ∧ RefAt w' db (some (g3, cap3)) (ins k (g + 1) L) (g + 1) ∧ Turn (fun b => b = db) w w' := by
  have hn' : ((L.length : Nat) : Int) < 8192 := by omega
  have hds := h.head.lt
  have hv : w.cell? ⟨db, 0, none⟩ = some (.slice (some ⟨rb, 0, none⟩) L.length cap) := by rw [h.head.cell]; rfl
  have hgv : w.cell? ⟨db, 1, none⟩ = some (.int .u64 (g : Int)) := by rw [h.head.cell]; rfl
  have hf : ∀ k, w.frozen? ⟨db, k, none⟩ = false := fun k => h.head.frozen k
  obtain ⟨_, _, hnc, hcm, _⟩ := h.row
  unfold maxLen at hcm
  have hcm' : (cap : Int) ≤ 9223372036854775807 := by omega
  have P0 : Hid (Put w ((w.setCell ⟨db, 1, none⟩ (.int .u64 ((g : Int) + 1))).alloc (.cells #[] 26)) db rb cap L ((g : Int) + 1) w.heap.size 0 []) := put_start h _
  have N1 : Hid ((L.take k).length = k) := by show _ = _; simp; omega
  have N2 : Hid ((L.drop k).length = L.length - k) := by show _ = _; simp
  have N3 : Hid (([] ++ L.take k ++ [g + 1]).length = k + 1) := by show _ = _; simp; omega
  obtain ⟨A, hA, hAn⟩ : ∃ A, (if cap = k then some (⟨rb, 0, none⟩ : Addr) else some ⟨rb, k, none⟩) = some A ∧ Hid (∀ W, RowAt W L (some (rb, cap)) → ∀ j u, (rowVals (L.drop k))[j]? = some u → W.cell? (A.add j) = some u) := by
    by_cases e : cap = k
    · refine ⟨_, if_pos e, fun W _ j u hu => ?_⟩
      rw [show L.drop k = [] from List.drop_eq_nil_of_le (by omega)] at hu
      simp [rowVals] at hu
    · exact ⟨_, if_neg e, fun W hW => hW.part k (L.drop k) (drop_part L k)⟩
  clear h
  have tok1 : True := trivial
  have tok2 : True := trivial
  have tok3 : True := trivial
  go_enter Try.func10, Try.ntmps10
  go_wp2_with fail
  refine hat.mono ?_
  rintro e w' ⟨rfl, rfl⟩
  clear hat
  go_wp2_with (first
    | (at_builtin; have _t := tok1; refine wpList_putS rfl _ _ rfl P0.out 0 rfl rfl ⟨rb, 0, none⟩ k cap (L.take k) rfl N1.out (P0.out.row.part 0 (L.take k) (take_part L k)) (by omega) ?_; intro g1 cap1 w1 hP1; have hc1 := hP1.c1; have P1 : Hid (Put w' w1 db rb cap L ((g : Int) + 1) g1 cap1 ([] ++ L.take k)) := hP1; clear hP1 tok1)
    | (at_builtin; have _t := tok2; refine wpList_putS rfl _ _ rfl (P1.out.alloc _) k N1.out rfl ⟨w1.heap.size, 0, none⟩ 1 1 [g + 1] rfl rfl (cell_one_new _ _ _) (by omega) ?_; intro g2 cap2 w2 hP2; have hc2 := hP2.c1; have hc3 := hP2.c0; have P2 : Hid (Put w' w2 db rb cap L ((g : Int) + 1) g2 cap2 ([] ++ L.take k ++ [g + 1])) := hP2; clear hP2 tok2)
    | (at_builtin; have _t := tok3; refine wpList_putS rfl _ _ rfl P2.out (k + 1) N3.out rfl A (L.length - k) (cap - k) (L.drop k) rfl N2.out (hAn.out _ P2.out.row) (by omega) ?_; intro g3 cap3 w3 hP3; have hc4 := hP3.c1; have hc5 := hP3.c0; have hf3 := hP3.fz; have P3 : Hid (Put w' w3 db rb cap L ((g : Int) + 1) g3 cap3 ([] ++ L.take k ++ [g + 1] ++ L.drop k)) := hP3; clear hP3 tok3))
  go_ret2
  have hd := Put.done (g := g + 1) P3.out
  have e1 : ([] ++ L.take k ++ [g + 1] ++ L.drop k).length = k + 1 + (L.length - k) := by
    have h1 := N2.out
    have h2 := N3.out
    rw [List.length_append, h1, h2]
  rw [e1] at hd
  refine ⟨rfl, g3, cap3, P3.out.new, ?_, hd.2⟩
  have e2 : ([] ++ L.take k ++ [g + 1] ++ L.drop k) = ins k (g + 1) L := by simp [ins]
  rw [← e2]
  exact hd.1

end Go.Proofs.Ytkppcnednfjbhaa
