/- copy, and append of zeros, at a row that is known whole, at elements of any size. -/
import Derived.Test.YtiggpbjgnododaaBase
import Derived.Laws.CopyRow
import Derived.Lib.AppendZerosOnto
import Derived.Lib.Overlaps
import Derived.Laws.Externs
namespace Go.Proofs.Ytiggpbjgnododaa
open Go.RowKit
set_option linter.unusedVariables false

theorem addr_add (b o j : Nat) : (⟨b, o, none⟩ : Addr).add j = ⟨b, o + j, none⟩ := by unfold Addr.add; split <;> simp_all

/-- A block's cells, by their number. -/
theorem cell_of {w : World} {g : Nat} {cur : List Value} {t : TypeId} (h : w.heap[g]? = some (.cells cur.toArray t (0, 0))) (j : Nat) : w.cell? ⟨g, j, none⟩ = cur[j]? := by simp [World.cell?, h]

/-- A row with some cells written over. -/
def over (cur : List Value) (o : Nat) (cs : List Value) : List Value := cur.take o ++ cs ++ cur.drop (o + cs.length)

theorem over_length {cur cs : List Value} {o : Nat} (h : o + cs.length ≤ cur.length) : (over cur o cs).length = cur.length := by
  simp [over]
  omega

theorem grown_setRow {w : World} {g : Nat} (cs : Array Value) : w.grownBy (w.setRow g cs) (some g) ∧ (w.setRow g cs).heap.size = w.heap.size := by
  refine ⟨⟨rfl, rfl, rfl, by simp [World.setRow], fun k hk hne => ?_⟩, by simp [World.setRow]⟩
  simp only [World.setRow, Array.getElem?_modify]
  rw [if_neg (fun e => hne (by rw [e]))]

/-- copy into a row that is known whole. -/
theorem run_copyK {P : Program} (w : World) (dT sT ty elem : TypeId) (size g o dLen dCap : Nat) (a : Option Addr) (sLen sCap : Nat) (cur : List Value) (t : TypeId) (cs : List Value)
    (hu : P.underlying dT = some (.slice elem)) (hs : (P.info? elem).map (·.size) = some size) (hg : w.heap[g]? = some (.cells cur.toArray t (0, 0))) (hn : cs.length = Nat.min sLen dLen * size)
    (hsrc : ∀ j v, cs[j]? = some v → ∃ ad, a = some ad ∧ w.cell? (ad.add j) = some v) (hfit : o + cs.length ≤ cur.length) (h1 : ∀ v ∈ cs, v.oneCell' = true) :
    ∃ w', (Builtin.copy_ #[dT, sT] ty #[.slice (some ⟨g, o, none⟩) dLen dCap, .slice a sLen sCap]).run P w = .ok (goInt (Nat.min sLen dLen)) w' ∧ w'.heap[g]? = some (.cells (over cur o cs).toArray t (0, 0)) ∧ w.grownBy w' (some g) ∧ w'.heap.size = w.heap.size := by
  have hst := run_storeCells_at P g o t cs 0 cur.toArray w hg (by simpa using hfit) h1
  simp only [Nat.add_zero] at hst
  refine ⟨w.setRow g (over cur o cs).toArray, ?_, setRow_heap w g _ _ t _ hg, grown_setRow _⟩
  cases hq : P.info? elem with
  | none => simp [hq] at hs
  | some i =>
    have hi : i.size = size := by simpa [hq] using hs
    cases a with
    | some ad =>
      have hl := run_loadCells_list (P := P) w ad cs (fun j v hj => by
        obtain ⟨ad', e, h⟩ := hsrc j v hj
        cases e
        exact h)
      simp [Builtin.copy_, run_underlying hu, Builtin.lenOf, Builtin.firstCells, sizeOf, typeInfo, hq, hi, ← hn, hl, hst, over]
    | none =>
      have hn0 : cs = [] := by
        cases cs with
        | nil => rfl
        | cons v r =>
          obtain ⟨ad', e, _⟩ := hsrc 0 v rfl
          cases e
      subst hn0
      simp [Builtin.copy_, run_underlying hu, Builtin.lenOf, Builtin.firstCells, sizeOf, typeInfo, hq, storeCells, over]
      have := setRow_self w g cur.toArray t (0, 0) hg
      exact this.symm

theorem wpList_copyK {P : Program} (w : World) {ops : Array Oper} {rest : List Oper} {op : Oper} {ac : Act} {Q : Exit → Act → World → Prop} (hgd : op.guard = none) (d s : Operand) (dT sT elem : TypeId)
    (ho : op.op = .call { callee := .builtin .copy, args := #[d, s], argTypes := #[dT, sT] }) (size g o dLen dCap : Nat) (a : Option Addr) (sLen sCap : Nat) (cur : List Value) (t : TypeId) (cs : List Value)
    (hd : ac.eval d = .slice (some ⟨g, o, none⟩) dLen dCap) (hx : ac.eval s = .slice a sLen sCap)
    (hu : P.underlying dT = some (.slice elem)) (hs : (P.info? elem).map (·.size) = some size) (hg : w.heap[g]? = some (.cells cur.toArray t (0, 0))) (hn : cs.length = Nat.min sLen dLen * size)
    (hsrc : ∀ j v, cs[j]? = some v → ∃ ad, a = some ad ∧ w.cell? (ad.add j) = some v) (hfit : o + cs.length ≤ cur.length) (h1 : ∀ v ∈ cs, v.oneCell' = true)
    (hK : ∀ w', w'.heap[g]? = some (.cells (over cur o cs).toArray t (0, 0)) → w.grownBy w' (some g) → w'.heap.size = w.heap.size → wpList P ops Q rest (ac.put op.dst (goInt (Nat.min sLen dLen))) w') : wpList P ops Q (op :: rest) ac w := by
  refine wpList_plain hgd fun K hK' => ?_
  obtain ⟨w', hr, h2, h3, h4⟩ := run_copyK (P := P) w dT sT op.type elem size g o dLen dCap a sLen sCap cur t cs hu hs hg hn hsrc hfit h1
  unfold Oper.wp execOp
  simp only [ho, resolve, invoke, builtin, Sem.run_bind, Sem.run_pure, Result.andThen_ok, List.map_toArray, List.map_cons, List.map_nil, hd, hx, hr]
  exact hK' _ _ (hK w' h2 h3 h4)

theorem step_copyK {P : Program} {w : World} {ops : Array Oper} {op : Oper} {ac : Act} {K : Act → World → Prop} {Q : Exit → Act → World → Prop} {E : Prop} (hgd : op.guard = none) (d s : Operand) (dT sT elem : TypeId)
    (ho : op.op = .call { callee := .builtin .copy, args := #[d, s], argTypes := #[dT, sT] }) (size g o dLen dCap : Nat) (a : Option Addr) (sLen sCap : Nat) (cur : List Value) (t : TypeId) (cs : List Value)
    (hd : ac.eval d = .slice (some ⟨g, o, none⟩) dLen dCap) (hx : ac.eval s = .slice a sLen sCap)
    (hu : P.underlying dT = some (.slice elem)) (hs : (P.info? elem).map (·.size) = some size) (hg : w.heap[g]? = some (.cells cur.toArray t (0, 0))) (hn : cs.length = Nat.min sLen dLen * size)
    (hsrc : ∀ j v, cs[j]? = some v → ∃ ad, a = some ad ∧ w.cell? (ad.add j) = some v) (hfit : o + cs.length ≤ cur.length) (h1 : ∀ v ∈ cs, v.oneCell' = true)
    (hK : ∀ w', w'.heap[g]? = some (.cells (over cur o cs).toArray t (0, 0)) → w.grownBy w' (some g) → w'.heap.size = w.heap.size → K (ac.put op.dst (goInt (Nat.min sLen dLen))) w') :
    if Region.wanted op (yielded ops ac.tmps) = true then Oper.wp P op ac w K Q else E := by
  have hw : Region.wanted op (yielded ops ac.tmps) = true := by simp [Region.wanted, hgd]
  rw [if_pos hw]
  obtain ⟨w', hr, h2, h3, h4⟩ := run_copyK (P := P) w dT sT op.type elem size g o dLen dCap a sLen sCap cur t cs hu hs hg hn hsrc hfit h1
  unfold Oper.wp execOp
  simp only [ho, resolve, invoke, builtin, Sem.run_bind, Sem.run_pure, Result.andThen_ok, List.map_toArray, List.map_cons, List.map_nil, hd, hx, hr]
  exact hK w' h2 h3 h4

/-- append(s[:i], make(S, k)...) where there is no room: a new row, its first elements those of s. -/
theorem wpList_zeros {P : Program} (w : World) {ops : Array Oper} {rest : List Oper} {op : Oper} {ac : Act} {Q : Exit → Act → World → Prop} (hgd : op.guard = none) (s x : Operand) (t tn e : TypeId) (kn kq : IntKind)
    (ho : op.op = .call { callee := .builtin .append, args := #[s, x], argTypes := #[t, tn] }) (ht : P.underlying t = some (.slice e)) (htn : P.underlying tn = some (.int kn)) {z : Value} {size bytes : Nat} (hi : InfoOf P e z size bytes) (hzs : z.cells.size = size) (hsz : 0 < size)
    (ad : Addr) (i c : Nat) (K : Int) (k : Nat) (hk : K = (k : Int)) (olds : List Value) (hl : olds.length = i * size) (hs : ac.eval s = .slice (some ad) i c) (hx : ac.eval x = .int kq K) (hold : ∀ j v, olds[j]? = some v → w.cell? (ad.add j) = some v)
    (h0 : 0 < k) (hg : c < i + k) (hb : (i + k) * bytes ≤ 140737488355328) (hm : i + k ≤ 1099511627776)
    (hK : ∀ w' G (cur : List Value), w'.heap[w.heap.size]? = some (.cells cur.toArray e (0, 0)) → cur.length = G * size → cur.take (i * size) = olds → i + k ≤ G → G ≤ maxLen → w.grownBy w' none → w'.heap.size = w.heap.size + 1 →
      wpList P ops Q rest (ac.put op.dst (.slice (some ⟨w.heap.size, 0, none⟩) (i + k) G)) w') : wpList P ops Q (op :: rest) ac w := by
  refine wpList_plain hgd fun K' hK' => ?_
  subst hk
  obtain ⟨i0, hi0, hz0, hz1, hz2⟩ := hi.parts
  have hfc : (Builtin.firstCells i0.size i (.slice (some ad) i c)).run P w.drew = .ok olds.toArray w.drew := by
    rw [hz1]
    exact run_firstCells_some w.drew size i ad i c olds hl (fun j v hj => hold j v hj)
  have hr := Lib.run_append_grow_zeros (P := P) w t tn op.type e i0 z kq kn ht htn hi0 hz0 (some ad) i c olds hfc k h0 (by rw [hz1]; exact hsz) hg (by omega) (by
    rw [hz2]
    have : k * bytes ≤ (i + k) * bytes := Nat.mul_le_mul_right _ (by omega)
    omega) (by rw [hz2]; exact growslice_fits hg hb)
  unfold Oper.wp execOp
  simp only [ho, resolve, invoke, builtin, Sem.run_bind, Sem.run_pure, Result.andThen_ok, List.map_toArray, List.map_cons, List.map_nil, hs, hx, hr]
  have hge := grownCap_ge w (i + k) c e
  refine hK' _ _ (hK _ (grownCap w (i + k) c e) (olds ++ (Builtin.zeroCells z.cells k).toList ++ (Builtin.zeroCells z.cells (grownCap w (i + k) c e - (i + k))).toList) ?_ ?_ ?_ hge ?_ ?_ ?_)
  · have := heap_alloc_new w.drew (.cells (olds.toArray ++ Builtin.zeroCells z.cells k ++ Builtin.zeroCells z.cells (grownCap w (i + k) c e - (i + k))) e)
    rw [show w.drew.heap.size = w.heap.size from rfl] at this
    rw [this]
    congr 2
    apply Array.ext'
    simp
  · simp only [List.length_append, Array.length_toList, size_zeroCells, hzs, hl]
    rw [← Nat.add_mul, ← Nat.add_mul]
    congr 1
    omega
  · rw [List.append_assoc, List.take_append_of_le_length (by omega), List.take_of_length_le (by omega)]
  · exact grownCap_le_maxLen w _ _ _ (by unfold maxLen; omega)
  · exact ⟨rfl, rfl, rfl, by simp, fun k hk _ => Below.heap_alloc w.drew _ _ hk⟩
  · simp

/-- A row that is known whole is a row of one's own. -/
theorem own_of_full {w : World} {base g cap n size : Nat} {e : TypeId} {cur xs : List Value} (h : w.heap[g]? = some (.cells cur.toArray e (0, 0))) (hb : base ≤ g) (hnc : n ≤ cap) (hm : cap ≤ maxLen) (hl : cur.length = cap * size) (hx : cur.take (n * size) = xs) :
    w.ownsRow base e size (.slice (some ⟨g, 0, none⟩) n cap) n xs := by
  have : n * size ≤ cap * size := Nat.mul_le_mul_right _ hnc
  refine ⟨?_, .inr ⟨g, cap, cur.toArray, rfl, hb, h, hnc, hm, by simpa using hl, by simpa using hx⟩⟩
  rw [← hx, List.length_take]
  omega

theorem full_of_own {w : World} {base n cap size : Nat} {a : Option Addr} {e : TypeId} {xs : List Value} (h : w.ownsRow base e size (.slice a n cap) n xs) (hn : 0 < n) :
    ∃ (g : Nat) (cur : List Value), a = some ⟨g, 0, none⟩ ∧ base ≤ g ∧ w.heap[g]? = some (.cells cur.toArray e (0, 0)) ∧ n ≤ cap ∧ cap ≤ maxLen ∧ cur.length = cap * size ∧ cur.take (n * size) = xs := by
  rcases h.2 with ⟨_, e1⟩ | ⟨g, cap', cur, e1, hb, hh, h1, h2, h3, h4⟩
  · omega
  · simp only [Value.slice.injEq, true_and] at e1
    obtain ⟨rfl, rfl⟩ := e1
    exact ⟨g, cur.toList, rfl, hb, by simpa using hh, h1, h2, by simpa using h3, h4⟩

/-- The row behind an insertion in place: what stood behind moved up, then the new one laid in. -/
theorem over_shift {cur xs vs : List Value} {i n k : Nat} (hx : cur.take (n * k) = xs) (hi : i ≤ n) (hv : vs.length = k) (hl : (n + 1) * k ≤ cur.length) :
    (over (over cur ((i + 1) * k) (xs.drop (i * k))) (i * k) vs).take ((n + 1) * k) = xs.take (i * k) ++ vs ++ xs.drop (i * k) := by
  have h1 : i * k ≤ n * k := Nat.mul_le_mul_right _ hi
  have h2 : (i + 1) * k = i * k + k := by rw [Nat.add_mul, Nat.one_mul]
  have h3 : (n + 1) * k = n * k + k := by rw [Nat.add_mul, Nat.one_mul]
  have hxl : xs.length = n * k := by rw [← hx, List.length_take]; omega
  rw [h3] at hl ⊢
  rw [h2]
  clear h2 h3
  generalize i * k = p at *
  generalize n * k = q at *
  have hd : (xs.drop p).length = q - p := by rw [List.length_drop, hxl]
  have ht : cur.take p = xs.take p := by rw [← hx, List.take_take]; congr 1; omega
  unfold over
  rw [hv, hd, show p + k + (q - p) = q + k by omega]
  have e1 : (cur.take (p + k) ++ xs.drop p ++ cur.drop (q + k)).take p = xs.take p := by
    rw [List.append_assoc, List.take_append_of_le_length (by simp; omega), List.take_take, ← ht]; congr 1; omega
  have e2 : (cur.take (p + k) ++ xs.drop p ++ cur.drop (q + k)).drop (p + k) = xs.drop p ++ cur.drop (q + k) := by
    rw [List.append_assoc, List.drop_append_of_le_length (by simp; omega), List.drop_of_length_le (by simp; omega), List.nil_append]
  have e3 : (xs.take p ++ vs ++ xs.drop p).length = q + k := by simp only [List.length_append, List.length_take, hd, hv, hxl]; omega
  rw [e1, e2, show xs.take p ++ vs ++ (xs.drop p ++ cur.drop (q + k)) = (xs.take p ++ vs ++ xs.drop p) ++ cur.drop (q + k) by simp only [List.append_assoc], List.take_append_of_le_length (by omega), List.take_of_length_le (by omega)]

/-- .. and in a new row: the new one laid in, then what stood behind. -/
theorem over_grow {cur xs vs : List Value} {i n k : Nat} (hxl : xs.length = n * k) (hx : cur.take (i * k) = xs.take (i * k)) (hi : i ≤ n) (hv : vs.length = k) (hl : (n + 1) * k ≤ cur.length) :
    (over (over cur (i * k) vs) ((i + 1) * k) (xs.drop (i * k))).take ((n + 1) * k) = xs.take (i * k) ++ vs ++ xs.drop (i * k) := by
  have h1 : i * k ≤ n * k := Nat.mul_le_mul_right _ hi
  have h2 : (i + 1) * k = i * k + k := by rw [Nat.add_mul, Nat.one_mul]
  have h3 : (n + 1) * k = n * k + k := by rw [Nat.add_mul, Nat.one_mul]
  rw [h3] at hl ⊢
  rw [h2]
  clear h2 h3
  generalize i * k = p at *
  generalize n * k = q at *
  have hd : (xs.drop p).length = q - p := by rw [List.length_drop, hxl]
  unfold over
  rw [hv, hd, show p + k + (q - p) = q + k by omega]
  have e1 : (cur.take p ++ vs ++ cur.drop (p + k)).take (p + k) = xs.take p ++ vs := by
    rw [List.take_append_of_le_length (by simp; omega), List.take_of_length_le (by simp; omega), hx]
  have e3 : (xs.take p ++ vs ++ xs.drop p).length = q + k := by simp only [List.length_append, List.length_take, hd, hv, hxl]; omega
  rw [e1, List.take_append_of_le_length (by omega), List.take_of_length_le (by omega)]

end Go.Proofs.Ytiggpbjgnododaa
