/- notEnded; which stack. -/
import Derived.Test.YtafpfelgngniiaaJnb
namespace Go.Proofs.Ytafpfelgngniiaa
open Go.RowKit
set_option linter.unusedVariables false
attribute [local go_sem] Bel.cell Bel.fz

/-- Places in a row. -/
def ks (l : List Nat) : List Value := l.map (fun (j : Nat) => Value.int .i64 (j : Int))
def KsAt (w : World) (a : Option Addr) (l : List Nat) : Prop := ∀ (i j : Nat), l[i]? = some j → ∃ g, a = some ⟨g, 0, none⟩ ∧ g < w.heap.size ∧ w.cell? ⟨g, i, none⟩ = some (.int .i64 (j : Int))
theorem row_ks {w : World} {base : Nat} {e : TypeId} {a : Option Addr} {cap : Nat} {l : List Nat} (h : w.ownsRow base e 1 (.slice a l.length cap) l.length (ks l)) : KsAt w a l ∧ l.length ≤ cap := by
  obtain ⟨hc, -, hcell⟩ := row_cell h
  refine ⟨fun i j hj => ?_, hc⟩
  obtain ⟨g, h1, -, h2, h3⟩ := hcell i (.int .i64 (j : Int)) (by simp [ks, hj])
  exact ⟨g, h1, h2, h3⟩
theorem ks_take (l : List Nat) (m : Nat) : ks (l.take m) = (ks l).take (m * 1) := by simp [ks]
theorem en_at {A : List Pl} {j : Nat} {x : Pl} (h : A[j]? = some x) : en A j = x.s.e := by simp [en, h]

set_option maxRecDepth 100000 in
set_option maxHeartbeats 1000000 in
theorem nend_any (w : World) {A : List Pl} {a : Option Addr} {ca : Nat} (hA : PlsAt w w.heap.size a A) (lA : A.length ≤ 8192) {l : List Nat} {oa : Option Addr} {oc : Nat} (hl : KsAt w oa l) (hc : l.length ≤ oc) (hj : ∀ j ∈ l, j < A.length) (hll : l.length ≤ 8192) (b : Int) :
    Calls Try.prog 39 #[.slice a A.length ca, .slice oa l.length oc, .int .u64 b] w fun e w' => ∃ m, m ≤ l.length ∧ popK A b l = l.take m ∧ e = .returned (.slice oa m oc) ∧ w' = w := by
  have HA : Hid (PlsAt w w.heap.size a A ∧ KsAt w oa l ∧ ∀ j ∈ l, j < A.length) := ⟨hA, hl, hj⟩
  clear hA hl hj
  go_enter Try.func39, Try.ntmps39
  go_wp2
  go_loop [1] (fun v => ∃ n : Nat, n ≤ l.length ∧ v = .slice oa n oc ∧ Hid (popK A b l = popK A b (l.take n))) (fun v => match v with | .slice _ n _ => n | _ => 0)
  case atStart => exact ⟨l.length, Nat.le_refl _, rfl, by show _ = _; rw [List.take_length]⟩
  case round =>
    obtain ⟨n, hn, rfl, HP⟩ := hrel
    by_cases hn0 : n = 0
    · subst hn0
      go_wp2
      go_ret
      exact ⟨0, by omega, by rw [HP.out]; rfl, rfl, rfl⟩
    · obtain ⟨k, rfl⟩ : ∃ k, n = k + 1 := ⟨n - 1, by omega⟩
      obtain ⟨j, hj⟩ : ∃ j, l[k]? = some j := ⟨_, List.getElem?_eq_getElem (by omega)⟩
      have hjl := HA.out.2.2 j (List.mem_of_getElem? hj)
      obtain ⟨x, hx⟩ : ∃ x, A[j]? = some x := ⟨_, List.getElem?_eq_getElem hjl⟩
      obtain ⟨h, rfl, hh, hc0⟩ := HA.out.2.1 k j hj
      obtain ⟨g, o, rfl, hg, c0, c1, c2, c3⟩ := HA.out.1 j x hx
      have HT : Hid (l.take (k + 1) = l.take k ++ [j]) := take_snoc hj
      have hen := en_at hx
      have hi1 : ((k + 1 : Nat) : Int) - 1 = (k : Int) := by omega
      have hj1 : (j : Int) < (A.length : Int) := by omega
      have hj0 : (0 : Int) ≤ (j : Int) := by omega
      clear hn0 hj hx
      by_cases hlt : x.s.e < b
      · have HP2 : Hid (popK A b l = popK A b (l.take k)) := by show _ = _; rw [HP.out, HT.out, popK_lt (by rw [hen]; exact hlt)]
        clear hen
        go_wp2
        go_round
        case rel => exact ⟨k, by omega, rfl, HP2⟩
        case measure => simp
      · have HP2 : Hid (popK A b l = l.take (k + 1)) := by show _ = _; rw [HP.out, HT.out, popK_ge (by rw [hen]; exact hlt)]
        clear hen
        go_wp2
        go_ret
        exact ⟨k + 1, hn, HP2.out, rfl, rfl⟩

set_option maxRecDepth 100000 in
theorem at_any (w : World) (b : Nat) (dr : Bool) (h : IsCells w b #[.bool dr]) (v : Int) : Calls Try.prog 36 (#[.int .i64 v] ++ #[.pointer (some ⟨b, 0, none⟩)]) w fun e w' => e = .returned (.int .i64 (if dr then v else 0)) ∧ w' = w := by
  have c0 : w.cell? ⟨b, 0, none⟩ = some (.bool dr) := h.cell 0
  have l0 := h.lt
  clear h
  simp only [List.append_toArray, List.cons_append, List.nil_append]
  cases dr with
  | true =>
    go_enter Try.func36, Try.ntmps36
    go_wp2
    go_ret
    exact ⟨rfl, rfl⟩
  | false =>
    go_enter Try.func36, Try.ntmps36
    go_wp2
    go_ret
    exact ⟨rfl, rfl⟩

end Go.Proofs.Ytafpfelgngniiaa
