/- The list's own map from tags to places, as a plain function: what a look-up, a store, a deletion and 'len' do to it. -/
import Derived.Test.YtkppcnednfjbhaaProg
import Derived.Maps.OwnSet
import Derived.WalkKit
import Derived.WalkSpells
import Derived.WalkLawsBesides
namespace Go.Proofs.Ytkppcnednfjbhaa
open Go.RowKit Go.Maps

def ptrElem : Value → Option (DataW Unit × List MemPlace)
  | .pointer none => some (.nil, [])
  | .pointer (some ⟨b, 0, none⟩) => some (.lit (.int .u64 b), [])
  | _ => none

theorem ptrElem_some (b : Nat) : ptrElem (.pointer (some ⟨b, 0, none⟩)) = some (.lit (.int .u64 b), []) := rfl

theorem ptrElem_nil_inv {v : Value} {ps : List MemPlace} (h : ptrElem v = some (.nil, ps)) : v = .pointer none := by
  unfold ptrElem at h
  split at h
  · rfl
  · simp at h
  · simp at h

theorem ptrElem_int_inv {v : Value} {b : Nat} {ps : List MemPlace} (h : ptrElem v = some (.lit (.int .u64 b), ps)) : v = .pointer (some ⟨b, 0, none⟩) := by
  unfold ptrElem at h
  split at h
  · simp at h
  · simp only [Option.some.injEq, Prod.mk.injEq, DataW.lit.injEq, Lit.int.injEq, true_and] at h
    rw [Int.ofNat_inj.1 h.1]
  · simp at h

theorem law26 : Keyed Try.prog 26 := int_keyed Try.underlying26
theorem zero27 (w : World) : (zeroValue 27).run Try.prog w = .ok (.pointer none) w := by kernel_rfl

theorem wf_u64 {t : Nat} (h : t < 18446744073709551616) : (Lit.int .u64 (t : Int)).wf = true := by
  have h1 : IntKind.u64.min = 0 := rfl
  have h2 : IntKind.u64.max = 18446744073709551615 := rfl
  simp only [Lit.wf, h1, h2, Bool.and_eq_true, decide_eq_true_eq]
  omega

/-- Block m of w is the map f, of N entries. -/
def PMap (w : World) (m : Nat) (f : Nat → Option Nat) (N : Nat) : Prop :=
  ∃ D : DataW Unit, w.ownsMap Try.prog 26 ptrElem m N D ∧ Maps.size D = N ∧
    ∀ t : Nat, t < 18446744073709551616 → (f t = none → Maps.has D (.int .u64 t) = false) ∧ (∀ b, f t = some b → Maps.has D (.int .u64 t) = true ∧ D.atKey (.int .u64 t) .nil = .lit (.int .u64 b))

theorem key_inj {a b : Nat} (h : a ≠ b) : (Lit.int .u64 (a : Int)) ≠ .int .u64 (b : Int) := by
  intro e
  simp only [Lit.int.injEq, true_and] at e
  omega

theorem PMap.lt {w : World} {m N : Nat} {f : Nat → Option Nat} (h : PMap w m f N) : m < w.heap.size := by
  obtain ⟨D, hown, _⟩ := h
  exact hown.lt

theorem PMap.of_block {w w' : World} {m N : Nat} {f : Nat → Option Nat} (h : PMap w m f N) (hb : w'.heap[m]? = w.heap[m]?) : PMap w' m f N := by
  obtain ⟨D, ⟨es, clock, h1, r⟩, h2⟩ := h
  exact ⟨D, ⟨es, clock, hb.trans h1, r⟩, h2⟩

theorem PMap.congr {w : World} {m N : Nat} {f g : Nat → Option Nat} (h : PMap w m f N) (hfg : ∀ t, t < 18446744073709551616 → g t = f t) : PMap w m g N := by
  obtain ⟨D, h1, h2, h3⟩ := h
  refine ⟨D, h1, h2, fun t ht => ?_⟩
  rw [hfg t ht]
  exact h3 t ht

theorem PMap.made (w : World) : PMap (w.alloc (.map #[] 0)) w.heap.size (fun _ => none) 0 := by
  refine ⟨.map [], World.ownsMap_made _ _ _ _, rfl, fun t _ => ⟨fun _ => rfl, fun b hb => by simp at hb⟩⟩

theorem PMap.look {w : World} {m N : Nat} {f : Nat → Option Nat} (h : PMap w m f N) {t : Nat} (ht : t < 18446744073709551616) :
    (Instr.lookup 24 (.map (some m)) (.int .u64 (t : Int)) false).run Try.prog w = .ok (.pointer ((f t).map fun b => ⟨b, 0, none⟩)) w := by
  obtain ⟨D, hown, _, h3⟩ := h
  obtain ⟨v, ps, hrun, hv⟩ := hown.lookup law26 Try.underlying24 (zero27 w) (zd := .nil) (zp := []) rfl (keyOf_int_mk Try.underlying26 (wf_u64 ht))
  rw [hrun]
  have h4 := h3 t ht
  cases hf : f t with
  | none =>
    rw [atKey_of_not_has (h4.1 hf)] at hv
    rw [ptrElem_nil_inv hv]
    rfl
  | some b =>
    rw [(h4.2 b hf).2] at hv
    rw [ptrElem_int_inv hv]
    rfl

theorem PMap.len {w : World} {m N : Nat} {f : Nat → Option Nat} (h : PMap w m f N) (ty : TypeId) :
    (Builtin.len_ #[24] ty #[.map (some m)]).run Try.prog w = .ok (.int .i64 (N : Int)) w := by
  obtain ⟨D, hown, hN, _⟩ := h
  rw [hown.len Try.underlying24 ty, hN]

theorem PMap.store {w : World} {m N : Nat} {f : Nat → Option Nat} (h : PMap w m f N) {t : Nat} (ht : t < 18446744073709551616) (hf : f t = none) (hN : N < maxLen) (b : Nat) :
    ∃ w', (Instr.mapUpdate 24 (.map (some m)) (.int .u64 (t : Int)) (.pointer (some ⟨b, 0, none⟩))).run Try.prog w = .ok () w' ∧ PMap w' m (fun s => if s = t then some b else f s) (N + 1) ∧ w.mapTurned w' m := by
  obtain ⟨D, hown, hsz, h3⟩ := h
  obtain ⟨w', hrun, hown', hturn⟩ := hown.store law26 Try.underlying24 hN (keyOf_int_mk Try.underlying26 (wf_u64 ht)) (ptrElem_some b)
  refine ⟨w', hrun, ⟨_, hown', ?_, fun s hs => ?_⟩, hturn⟩
  · rw [size_put (hown.tidy law26), (h3 t ht).1 hf, hsz]
    rfl
  · by_cases e : s = t
    · subst e
      simp only [if_pos]
      refine ⟨fun e => by simp at e, fun b' hb' => ?_⟩
      simp only [Option.some.injEq] at hb'
      subst hb'
      exact ⟨has_put_same (k := .int .u64 (s : Int)) hown.isMap trivial _, atKey_put_same (k := .int .u64 (s : Int)) hown.isMap trivial _ _⟩
    · simp only [if_neg e]
      rw [has_put_other (key_inj e), atKey_put_other (key_inj e)]
      exact h3 s hs

theorem PMap.drop {w : World} {m N : Nat} {f : Nat → Option Nat} (h : PMap w m f N) {t b : Nat} (ht : t < 18446744073709551616) (hf : f t = some b) (ty : TypeId) :
    ∃ w', (Builtin.delete_ #[24, 26] ty #[.map (some m), .int .u64 (t : Int)]).run Try.prog w = .ok (.tuple #[]) w' ∧ PMap w' m (fun s => if s = t then none else f s) (N - 1) ∧ w.mapTurned w' m := by
  obtain ⟨D, hown, hsz, h3⟩ := h
  obtain ⟨w', hrun, hown', hturn⟩ := hown.drop law26 Try.underlying24 (keyOf_int_mk Try.underlying26 (wf_u64 ht)) ty
  have hs := size_del (k := .int .u64 (t : Int)) (hown.tidy law26)
  rw [((h3 t ht).2 b hf).1, hsz] at hs
  simp only [if_true] at hs
  have hs' : Maps.size (D.del (.int .u64 (t : Int))) = N - 1 := by omega
  refine ⟨w', hrun, ⟨_, ?_, hs', fun s hs => ?_⟩, hturn⟩
  · obtain ⟨es, clock, q1, q2, q3, q4⟩ := hown'
    refine ⟨es, clock, q1, q2, ?_, q4⟩
    have : Maps.size (D.del (.int .u64 (t : Int))) = es.size := by rw [q4]; simp [Maps.size, length_sorted]
    omega
  · by_cases e : s = t
    · subst e
      simp only [if_pos]
      exact ⟨fun _ => has_del_same, fun b' hb' => by simp at hb'⟩
    · simp only [if_neg e]
      rw [has_del_other (key_inj e), atKey_del_other (key_inj e)]
      exact h3 s hs

/-- The map in the list's field: none yet, or the map f. -/
def MapAt (w : World) : Option Nat → (Nat → Option Nat) → Nat → Prop
  | none, f, N => (∀ t, f t = none) ∧ N = 0
  | some m, f, N => PMap w m f N

theorem MapAt.look {w : World} {m : Option Nat} {N : Nat} {f : Nat → Option Nat} (h : MapAt w m f N) {t : Nat} (ht : t < 18446744073709551616) :
    (Instr.lookup 24 (.map m) (.int .u64 (t : Int)) false).run Try.prog w = .ok (.pointer ((f t).map fun b => ⟨b, 0, none⟩)) w := by
  cases m with
  | none => rw [h.1 t]; exact look_nil false law26 Try.underlying24 (zero27 w) (keyOf_int_mk Try.underlying26 (wf_u64 ht))
  | some m => exact PMap.look h ht

theorem MapAt.len {w : World} {m : Option Nat} {N : Nat} {f : Nat → Option Nat} (h : MapAt w m f N) (ty : TypeId) :
    (Builtin.len_ #[24] ty #[.map m]).run Try.prog w = .ok (.int .i64 (N : Int)) w := by
  cases m with
  | none => rw [h.2]; exact len_nil Try.underlying24 ty
  | some m => exact PMap.len h ty

end Go.Proofs.Ytkppcnednfjbhaa
