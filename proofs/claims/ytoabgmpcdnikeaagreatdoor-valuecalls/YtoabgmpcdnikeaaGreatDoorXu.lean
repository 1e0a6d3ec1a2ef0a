/- A list of values copied into a row of one's own. -/
import Derived.Test.YtoabgmpcdnikeaaGreatDoorXt
namespace Go.Proofs.YtoabgmpcdnikeaaGreatDoor
open Go.RowKit
set_option linter.unusedVariables false

theorem info24 : InfoOf Tryz.prog 24 (.agg #[.int .i64 0, .bool false, .int .i64 0, .bool false, .string ⟨#[]⟩, .slice none 0 0]) 6 72 := by unfold InfoOf; kernel_rfl
/-- A value's cells; those of many. -/
def vcl (v : Vl) (a : Option Addr) (c : Nat) : List Value := [.int .i64 v.k, .bool v.b, .int .i64 v.n, .bool v.no, .string v.t, .slice a v.L.length c]
abbrev Cp := Vl × Option Addr × Nat
def flatC : List Cp → List Value
  | [] => []
  | p :: r => vcl p.1 p.2.1 p.2.2 ++ flatC r
theorem flatC_append : ∀ (D E : List Cp), flatC (D ++ E) = flatC D ++ flatC E
  | [], E => rfl
  | p :: r, E => by rw [List.cons_append, flatC, flatC_append r E, flatC, List.append_assoc]
theorem flatC_length : ∀ D : List Cp, (flatC D).length = D.length * 6
  | [] => rfl
  | p :: r => by
    rw [flatC, List.length_append, flatC_length r, List.length_cons]
    simp [vcl]
    omega
theorem flatC_get : ∀ (D : List Cp) (i : Nat) (p : Cp) (k : Nat), D[i]? = some p → k < 6 → (flatC D)[i * 6 + k]? = (vcl p.1 p.2.1 p.2.2)[k]?
  | [], i, p, k, h, hk => by simp at h
  | q :: r, 0, p, k, h, hk => by
    simp at h
    subst h
    rw [flatC, Nat.zero_mul, Nat.zero_add, List.getElem?_append_left (by simpa [vcl] using hk)]
  | q :: r, i + 1, p, k, h, hk => by
    rw [flatC, List.getElem?_append_right (by simp [vcl]; omega)]
    rw [show (i + 1) * 6 + k - (vcl q.1 q.2.1 q.2.2).length = i * 6 + k by simp [vcl]; omega]
    exact flatC_get r i p k (by simpa using h) hk
theorem vcl_one (v : Vl) (a : Option Addr) (c : Nat) : ∀ u ∈ vcl v a c, u.oneCell' = true := by
  intro u hu
  simp only [vcl, List.mem_cons, List.not_mem_nil, or_false] at hu
  rcases hu with rfl | rfl | rfl | rfl | rfl | rfl <;> rfl
theorem news6 (w : World) (cs : Array Value) : ∀ j u, cs.toList[j]? = some u → ∃ ad, some (⟨w.heap.size, 0, none⟩ : Addr) = some ad ∧ (w.alloc (.cells cs 24)).cell? (ad.add j) = some u := by
  intro j u hu
  refine ⟨_, rfl, ?_⟩
  have e : (⟨w.heap.size, 0, none⟩ : Addr).add j = ⟨w.heap.size, j, none⟩ := by unfold Addr.add; split <;> simp_all
  rw [e, (isCells_new w cs 24).cell]
  simpa using hu

/-- Copies under way: the first ones of A, in a row of one's own; the texts of each lie elsewhere. -/
structure CpSt (w wr : World) (A : List Vl) (D : List Cp) (va : Option Addr) (vc : Nat) : Prop where
  own : wr.ownsRow w.heap.size 24 6 (.slice va D.length vc) D.length (flatC D)
  bel : Below w.heap.size w wr
  map : D.map (·.1) = A.take D.length
  ss : ∀ p ∈ D, SsAt wr p.2.1 p.1.L
  far : ∀ p ∈ D, ∀ b o, p.2.1 = some ⟨b, o, none⟩ → b < wr.heap.size ∧ (Value.slice va D.length vc).ownBlock ≠ some b

theorem CpSt.nil (w wr : World) (A : List Vl) (h : Below w.heap.size w wr) : CpSt w wr A [] none 0 := ⟨⟨rfl, .inl ⟨rfl, rfl⟩⟩, h, rfl, fun p hp => by simp at hp, fun p hp => by simp at hp⟩
/-- Later, where nothing of it was turned. -/
theorem CpSt.below {w wr w2 : World} {A : List Vl} {D : List Cp} {va : Option Addr} {vc : Nat} (h : CpSt w wr A D va vc) (hb : Below wr.heap.size wr w2) : CpSt w w2 A D va vc :=
  ⟨own_of_block h.own (fun k hk => hb.block k (own_block_lt h.own k hk).2), h.bel.trans (hb.mono h.bel.size), h.map, fun p hp => (h.ss p hp).bel hb, fun p hp b o e => ⟨Nat.lt_of_lt_of_le (h.far p hp b o e).1 hb.size, (h.far p hp b o e).2⟩⟩
/-- One more behind (w3: behind the append). -/
theorem CpSt.push {w wr w2 w3 : World} {A : List Vl} {D : List Cp} {va va' : Option Addr} {vc vc' : Nat} (h : CpSt w wr A D va vc) {v : Vl} (hv : A[D.length]? = some v) {a : Option Addr} {c : Nat} (hb : Below wr.heap.size wr w2) (hss : SsAt w2 a v.L) (hlo : ∀ b o, a = some ⟨b, o, none⟩ → wr.heap.size ≤ b ∧ b < w2.heap.size) {o : Obj}
    (hown : w3.ownsRow w.heap.size 24 6 (.slice va' (D.length + 1) vc') (D.length + 1) (flatC D ++ vcl v a c)) (hg : (w2.alloc o).grownBy w3 (Value.slice va D.length vc).ownBlock) (hat : (Value.slice va' (D.length + 1) vc').ownBlock = (Value.slice va D.length vc).ownBlock ∨ (Value.slice va' (D.length + 1) vc').ownBlock = some (w2.alloc o).heap.size) : CpSt w w3 A (D ++ [(v, a, c)]) va' vc' := by
  have h2 := h.below hb
  have hsz : (w2.alloc o).heap.size = w2.heap.size + 1 := by simp
  have hold : ∀ b, b < w2.heap.size → (Value.slice va D.length vc).ownBlock ≠ some b → w3.heap[b]? = w2.heap[b]? := fun b hb1 hb2 => (hg.block b (by omega) (fun e => hb2 e.symm)).trans (Below.heap_alloc _ _ _ (by omega))
  have hkeep : ∀ {x : Option Addr} {L : List ByteArray}, SsAt w2 x L → (∀ b o, x = some ⟨b, o, none⟩ → b < w2.heap.size ∧ (Value.slice va D.length vc).ownBlock ≠ some b) → SsAt w3 x L := fun hs hf i s hi => by
    obtain ⟨b, o', e1, e2, e3⟩ := hs i s hi
    obtain ⟨f1, f2⟩ := hf b o' e1
    refine ⟨b, o', e1, ?_, (World.cell?_of_block (w := w2) (a := ⟨b, o' + i, none⟩) (hold b f1 f2)).trans e3⟩
    have := hg.size
    omega
  have hnew : ∀ b o, a = some ⟨b, o, none⟩ → b < w2.heap.size ∧ (Value.slice va D.length vc).ownBlock ≠ some b := fun b o e => ⟨(hlo b o e).2, fun e2 => by have := (own_block_lt h.own b e2).2; have := (hlo b o e).1; omega⟩
  have hfar : ∀ {x : Option Addr}, (∀ b o, x = some ⟨b, o, none⟩ → b < w2.heap.size ∧ (Value.slice va D.length vc).ownBlock ≠ some b) → ∀ b o, x = some ⟨b, o, none⟩ → b < w3.heap.size ∧ (Value.slice va' (D ++ [(v, a, c)]).length vc').ownBlock ≠ some b := fun hf b o' e => by
    obtain ⟨f1, f2⟩ := hf b o' e
    refine ⟨by have := hg.size; omega, ?_⟩
    have e2 : (Value.slice va' (D ++ [(v, a, c)]).length vc').ownBlock = (Value.slice va' (D.length + 1) vc').ownBlock := by rw [List.length_append]; rfl
    rw [e2]
    rcases hat with h1 | h1
    · rw [h1]; exact f2
    · rw [h1]
      intro e3
      simp only [Option.some.injEq] at e3
      omega
  refine ⟨?_, ?_, ?_, ?_, ?_⟩
  · rw [flatC_append, List.length_append]
    show w3.ownsRow w.heap.size 24 6 (.slice va' (D.length + 1) vc') (D.length + 1) (flatC D ++ (vcl v a c ++ []))
    rw [List.append_nil]
    exact hown
  · exact (h2.bel.alloc h2.bel.size o).grown hg (by have := h2.bel.size; omega) (fun k hk => (own_block_lt h.own k hk).1)
  · rw [List.map_append, h.map, List.length_append, List.map_cons, List.map_nil, List.length_singleton, List.take_add_one, hv]
    rfl
  · intro p hp
    rcases List.mem_append.1 hp with hp | hp
    · exact hkeep (h2.ss p hp) (h2.far p hp)
    · simp at hp
      subst hp
      exact hkeep hss hnew
  · intro p hp
    rcases List.mem_append.1 hp with hp | hp
    · exact hfar (h2.far p hp)
    · simp at hp
      subst hp
      exact hfar hnew

end Go.Proofs.YtoabgmpcdnikeaaGreatDoor
