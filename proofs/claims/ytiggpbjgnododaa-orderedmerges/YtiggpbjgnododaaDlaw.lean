/- append onto a part of a row from a later part of it, and clear, at a row that is known whole. -/
import Derived.Test.YtiggpbjgnododaaIlaw
namespace Go.Proofs.Ytiggpbjgnododaa
open Go.RowKit
set_option linter.unusedVariables false

theorem row_setCells (g : Nat) (t : TypeId) : ∀ (vs : List Value) (o : Nat) (w : World) (cur : List Value), w.heap[g]? = some (.cells cur.toArray t (0, 0)) → o + vs.length ≤ cur.length →
    (w.setCells g o vs).heap[g]? = some (.cells (over cur o vs).toArray t (0, 0)) ∧ w.grownBy (w.setCells g o vs) (some g) ∧ (w.setCells g o vs).heap.size = w.heap.size
  | [], o, w, cur, h, hl => ⟨by simpa [over, World.setCells] using h, ⟨rfl, rfl, rfl, Nat.le_refl _, fun _ _ _ => rfl⟩, rfl⟩
  | v :: r, o, w, cur, h, hl => by
    have h1 : (w.setCell ⟨g, o, none⟩ v).heap[g]? = some (.cells (cur.set o v).toArray t (0, 0)) := by
      simp [World.setCell, Array.getElem?_modify, h]
    have ih := row_setCells g t r (o + 1) (w.setCell ⟨g, o, none⟩ v) (cur.set o v) h1 (by simp at hl ⊢; omega)
    have e : over (cur.set o v) (o + 1) r = over cur o (v :: r) := by
      unfold over
      exact list_seg_step cur o v r (by simpa using hl)
    rw [e] at ih
    refine ⟨ih.1, ⟨ih.2.1.os, ih.2.1.tape, ih.2.1.output, ?_, fun k hk hne => ?_⟩, ?_⟩
    · have h2 : (w.setCell ⟨g, o, none⟩ v).heap.size = w.heap.size := by simp [World.setCell]
      rw [← h2]
      exact ih.2.1.size
    · rw [World.setCells, ih.2.1.block k (by simpa [World.setCell] using hk) hne]
      exact Below.heap_setCell _ _ _ _ (fun e => hne (by rw [e]))
    · have h2 : (w.setCell ⟨g, o, none⟩ v).heap.size = w.heap.size := by simp [World.setCell]
      rw [← h2]
      exact ih.2.2

/-- append in place, from whatever lies there. -/
theorem run_moveK {P : Program} (w : World) (t ty e : TypeId) {z : Value} {size bytes : Nat} (ht : P.underlying t = some (.slice e)) (hi : InfoOf P e z size bytes) (g i cap : Nat) (ad : Addr) (m c : Nat) (cur cs : List Value) (et : TypeId)
    (hg : w.heap[g]? = some (.cells cur.toArray et (0, 0))) (hl : cs.length = m * size) (hsrc : ∀ j u, cs[j]? = some u → w.cell? (ad.add j) = some u) (h1 : ∀ u ∈ cs, u.oneCell' = true) (hroom : i + m ≤ cap) (hc : cur.length = cap * size) :
    ∃ w', (Builtin.append_ #[t, t] ty #[.slice (some ⟨g, 0, none⟩) i cap, .slice (some ad) m c]).run P w = .ok (.slice (some ⟨g, 0, none⟩) (i + m) cap) w' ∧ w'.heap[g]? = some (.cells (over cur (i * size) cs).toArray et (0, 0)) ∧ w.grownBy w' (some g) ∧ w'.heap.size = w.heap.size := by
  obtain ⟨i0, hi0, hz0, hz1, hz2⟩ := hi.parts
  have hfit : i * size + cs.length ≤ cur.length := by
    rw [hl, hc, ← Nat.add_mul]
    exact Nat.mul_le_mul_right _ hroom
  have hr := run_append_room_src (P := P) w t t ty e i0 ht hi0 g 0 i cap (.slice (some ad) m c) m cs (by rw [hz1]; exact Src.ofSlice w ht ad m c cs hl hsrc h1) hroom
    (fun j hj => by rw [hz1, Nat.zero_add, cell_of hg, List.getElem?_eq_getElem (by omega)]; rfl) (fun j hj => by simp [World.frozen?, hg])
  rw [hz1, Nat.zero_add] at hr
  exact ⟨_, hr, row_setCells g et cs (i * size) w cur hg hfit⟩

theorem step_moveK {P : Program} {w : World} {ops : Array Oper} {op : Oper} {ac : Act} {K : Act → World → Prop} {Q : Exit → Act → World → Prop} {E : Prop} (hgd : op.guard = none) (s x : Operand) (t e : TypeId)
    (ho : op.op = .call { callee := .builtin .append, args := #[s, x], argTypes := #[t, t] }) {z : Value} {size bytes : Nat} (ht : P.underlying t = some (.slice e)) (hi : InfoOf P e z size bytes) (g i cap : Nat) (ad : Addr) (m c : Nat) (cur cs : List Value) (et : TypeId)
    (hs : ac.eval s = .slice (some ⟨g, 0, none⟩) i cap) (hx : ac.eval x = .slice (some ad) m c)
    (hg : w.heap[g]? = some (.cells cur.toArray et (0, 0))) (hl : cs.length = m * size) (hsrc : ∀ j u, cs[j]? = some u → w.cell? (ad.add j) = some u) (h1 : ∀ u ∈ cs, u.oneCell' = true) (hroom : i + m ≤ cap) (hc : cur.length = cap * size)
    (hK : ∀ w', w'.heap[g]? = some (.cells (over cur (i * size) cs).toArray et (0, 0)) → w.grownBy w' (some g) → w'.heap.size = w.heap.size → K (ac.put op.dst (.slice (some ⟨g, 0, none⟩) (i + m) cap)) w') :
    if Region.wanted op (yielded ops ac.tmps) = true then Oper.wp P op ac w K Q else E := by
  have hw : Region.wanted op (yielded ops ac.tmps) = true := by simp [Region.wanted, hgd]
  rw [if_pos hw]
  obtain ⟨w', hr, h2, h3, h4⟩ := run_moveK (P := P) w t op.type e ht hi g i cap ad m c cur cs et hg hl hsrc h1 hroom hc
  unfold Oper.wp execOp
  simp only [ho, resolve, invoke, builtin, Sem.run_bind, Sem.run_pure, Result.andThen_ok, List.map_toArray, List.map_cons, List.map_nil, hs, hx, hr]
  exact hK w' h2 h3 h4

/-- clear of some elements. -/
theorem run_clearK {P : Program} (w : World) (t ty e : TypeId) {z : Value} {size bytes : Nat} (ht : P.underlying t = some (.slice e)) (hi : InfoOf P e z size bytes) (hzs : z.cells.size = size) (hz1 : ∀ u ∈ z.cells.toList, u.oneCell' = true) (hsz : 0 < size) (g o n c : Nat) (cur : List Value) (et : TypeId)
    (hg : w.heap[g]? = some (.cells cur.toArray et (0, 0))) (hn : 0 < n) (hfit : o + n * size ≤ cur.length) :
    ∃ w' zs, zs.length = n * size ∧ (Builtin.clear_ #[t] ty #[.slice (some ⟨g, o, none⟩) n c]).run P w = .ok (.tuple #[]) w' ∧ w'.heap[g]? = some (.cells (over cur o zs).toArray et (0, 0)) ∧ w.grownBy w' (some g) ∧ w'.heap.size = w.heap.size := by
  obtain ⟨i0, hi0, hz0, hs1, hs2⟩ := hi.parts
  have hzl : (Builtin.zeroCells z.cells n).toList.length = n * size := by rw [Array.length_toList, size_zeroCells, hzs]
  have hone : ∀ u ∈ (Builtin.zeroCells z.cells n).toList, u.oneCell' = true := by
    intro u hu
    simp only [Builtin.zeroCells, Array.toList_map, Array.toList_range, List.mem_map, List.mem_range] at hu
    obtain ⟨k, hk, rfl⟩ := hu
    have hlt : k % z.cells.size < z.cells.size := Nat.mod_lt _ (by omega)
    rw [getElem!_pos z.cells _ hlt]
    exact hz1 _ (by simp)
  have hst := run_storeCells_at P g o et (Builtin.zeroCells z.cells n).toList 0 cur.toArray w hg (by simp only [Nat.add_zero, List.size_toArray]; omega) hone
  simp only [Nat.add_zero] at hst
  obtain ⟨n', rfl⟩ : ∃ n', n = n' + 1 := ⟨n - 1, by omega⟩
  refine ⟨w.setRow g (over cur o (Builtin.zeroCells z.cells (n' + 1)).toList).toArray, _, hzl, ?_, setRow_heap w g _ _ et _ hg, grown_setRow _⟩
  simp [Builtin.clear_, run_underlying ht, zeroValue, typeInfo, hi0, hz0, hst, over]

theorem wpList_clearK {P : Program} (w : World) {ops : Array Oper} {rest : List Oper} {op : Oper} {ac : Act} {Q : Exit → Act → World → Prop} (hgd : op.guard = none) (s : Operand) (t e : TypeId)
    (ho : op.op = .call { callee := .builtin .clear, args := #[s], argTypes := #[t] }) {z : Value} {size bytes : Nat} (ht : P.underlying t = some (.slice e)) (hi : InfoOf P e z size bytes) (hzs : z.cells.size = size) (hz1 : ∀ u ∈ z.cells.toList, u.oneCell' = true) (hsz : 0 < size) (g o n c : Nat) (cur : List Value) (et : TypeId)
    (hs : ac.eval s = .slice (some ⟨g, o, none⟩) n c) (hg : w.heap[g]? = some (.cells cur.toArray et (0, 0))) (hn : 0 < n) (hfit : o + n * size ≤ cur.length)
    (hK : ∀ w' zs, zs.length = n * size → w'.heap[g]? = some (.cells (over cur o zs).toArray et (0, 0)) → w.grownBy w' (some g) → w'.heap.size = w.heap.size → wpList P ops Q rest (ac.put op.dst (.tuple #[])) w') : wpList P ops Q (op :: rest) ac w := by
  refine wpList_plain hgd fun K hK' => ?_
  obtain ⟨w', zs, h0, hr, h2, h3, h4⟩ := run_clearK (P := P) w t op.type e ht hi hzs hz1 hsz g o n c cur et hg hn hfit
  unfold Oper.wp execOp
  simp only [ho, resolve, invoke, builtin, Sem.run_bind, Sem.run_pure, Result.andThen_ok, List.map_toArray, List.map_cons, List.map_nil, hs, hr]
  exact hK' _ _ (hK w' zs h0 h2 h3 h4)

/-- The row behind a deletion. -/
theorem over_del {cur xs zs : List Value} {i n k : Nat} (hx : cur.take (n * k) = xs) (hi : i < n) (hz : zs.length = k) (hl : n * k ≤ cur.length) :
    (over (over cur (i * k) (xs.drop ((i + 1) * k))) ((n - 1) * k) zs).take ((n - 1) * k) = xs.take (i * k) ++ xs.drop ((i + 1) * k) := by
  have hxl : xs.length = n * k := by rw [← hx, List.length_take]; omega
  obtain ⟨m, rfl⟩ : ∃ m, n = m + 1 := ⟨n - 1, by omega⟩
  have h1 : i * k ≤ m * k := Nat.mul_le_mul_right _ (by omega)
  have h2 : (i + 1) * k = i * k + k := by rw [Nat.add_mul, Nat.one_mul]
  have h3 : (m + 1) * k = m * k + k := by rw [Nat.add_mul, Nat.one_mul]
  rw [show m + 1 - 1 = m by omega, h2]
  rw [h3] at hx hl hxl
  clear h2 h3
  generalize i * k = p at *
  generalize m * k = q at *
  have hd : (xs.drop (p + k)).length = q - p := by rw [List.length_drop, hxl]; omega
  have ht : cur.take p = xs.take p := by rw [← hx, List.take_take]; congr 1; omega
  unfold over
  rw [hd]
  have e3 : (xs.take p ++ xs.drop (p + k)).length = q := by simp only [List.length_append, List.length_take, hd, hxl]; omega
  have e1 : (cur.take p ++ xs.drop (p + k) ++ cur.drop (p + (q - p))).take q = xs.take p ++ xs.drop (p + k) := by
    rw [ht, List.take_append_of_le_length (by omega), List.take_of_length_le (by omega)]
  rw [e1, List.append_assoc, List.take_append_of_le_length (by omega), List.take_of_length_le (by omega)]

end Go.Proofs.Ytiggpbjgnododaa
