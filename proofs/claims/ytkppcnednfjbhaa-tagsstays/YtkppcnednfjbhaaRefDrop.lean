/- What the document's Drop answers and leaves. -/
import Derived.Test.YtkppcnednfjbhaaRefAfter
import Derived.Deep.RegionHeld3
import Derived.Deep.RegionLaw
namespace Go.Proofs.Ytkppcnednfjbhaa
open Go.RowKit Go.Maps

theorem put_start0 {w : World} {db rb cap g : Nat} {L : List Nat} (h : RefAt w db (some (rb, cap)) L g) : Put w (w.alloc (.cells #[] 26)) db rb cap L (g : Int) w.heap.size 0 [] :=
  ⟨h.head.alloc _, h.row.of_block (fun rb' cap' e => by
    cases e
    exact Below.heap_alloc _ _ _ (h.own_lt (.inr ⟨cap, rfl⟩))), owns_empty w, Nat.le_refl _, (Turn.refl (fun b => b = db) w).alloc _, h.head.lt, h.own_lt (.inr ⟨cap, rfl⟩)⟩

/-- At a step of a region whose order is open. -/
theorem step_putS {w0 w : World} {db rb cap g1 cap1 : Nat} {L M : List Nat} {gv : Int} {ops : Array Oper} {o : Oper} {a : Act} {K : Act → World → Prop} {Q : Exit → Act → World → Prop} {E : Prop} (hgd : o.guard = none) (s x : Operand)
    (ho : o.op = .call { callee := .builtin .append, args := #[s, x], argTypes := #[33, 33] }) (h : Put w0 w db rb cap L gv g1 cap1 M) (n : Nat) (hM : M.length = n) (hs : a.eval s = .slice (some ⟨g1, 0, none⟩) n cap1)
    (ad : Addr) (m c : Nat) (N : List Nat) (hx : a.eval x = .slice (some ad) m c) (hN : N.length = m) (hnews : ∀ j u, (rowVals N)[j]? = some u → w.cell? (ad.add j) = some u) (h63 : n + m ≤ 16384)
    (hK : ∀ g2 cap2 w', Put w0 w' db rb cap L gv g2 cap2 (M ++ N) → K (a.put o.dst (.slice (some ⟨g2, 0, none⟩) (n + m) cap2)) w') : if Region.wanted o (yielded ops a.tmps) = true then Oper.wp Try.prog o a w K Q else E := by
  have hw : Region.wanted o (yielded ops a.tmps) = true := by simp [Region.wanted, hgd]
  rw [if_pos hw]
  obtain ⟨g2, cap2, w', hr, h2⟩ := h.run o.type hM ad m c N hN hnews h63
  unfold Oper.wp execOp
  simp only [ho, resolve, invoke, builtin, Sem.run_bind, Sem.run_pure, Result.andThen_ok, List.map_toArray, List.map_cons, List.map_nil, hs, hx, hr]
  exact hK g2 cap2 w' h2

set_option maxRecDepth 100000 in
set_option maxHeartbeats 2000000 in
theorem rdrop_some (w : World) (db rb cap c g : Nat) (L : List Nat) (t : Nat) (hat : Calls Try.prog 28 #[.pointer (some ⟨db, 0, none⟩), .int .u64 (t : Int)] w fun e w' => e = .returned (.int .i64 ((c : Int) + 1)) ∧ w' = w)
    (h : RefAt w db (some (rb, cap)) L g) (hn : L.length ≤ 8192) (hk : c < L.length) :
    Calls Try.prog 20 #[.pointer (some ⟨db, 0, none⟩), .int .u64 (t : Int)] w fun e w' => e = .returned (.int .i64 0) ∧
      ∃ g3 cap3, w.heap.size ≤ g3 ∧ RefAt w' db (some (g3, cap3)) (del c L) g ∧ Turn (fun b => b = db) w w' := by
  have hds := h.head.lt
  have hv : w.cell? ⟨db, 0, none⟩ = some (.slice (some ⟨rb, 0, none⟩) L.length cap) := by rw [h.head.cell]; rfl
  have hf : ∀ k, w.frozen? ⟨db, k, none⟩ = false := fun k => h.head.frozen k
  obtain ⟨_, _, hnc, hcm, _⟩ := h.row
  unfold maxLen at hcm
  have hcm' : (cap : Int) ≤ 9223372036854775807 := by omega
  have P0 : Hid (Put w (w.alloc (.cells #[] 26)) db rb cap L (g : Int) w.heap.size 0 []) := put_start0 h
  have N1 : Hid ((L.take c).length = c) := by show _ = _; simp; omega
  have N2 : Hid ((L.drop (c + 1)).length = L.length - (c + 1)) := by show _ = _; simp
  have N3 : Hid (([] ++ L.take c).length = c) := by show _ = _; simp; omega
  obtain ⟨A, hA, hAn⟩ : ∃ A, (if cap = c + 1 then some (⟨rb, 0, none⟩ : Addr) else some ⟨rb, c + 1, none⟩) = some A ∧ Hid (∀ W, RowAt W L (some (rb, cap)) → ∀ j u, (rowVals (L.drop (c + 1)))[j]? = some u → W.cell? (A.add j) = some u) := by
    by_cases e : cap = c + 1
    · refine ⟨_, if_pos e, fun W _ j u hu => ?_⟩
      rw [show L.drop (c + 1) = [] from List.drop_eq_nil_of_le (by omega)] at hu
      simp [rowVals] at hu
    · exact ⟨_, if_neg e, fun W hW => hW.part (c + 1) (L.drop (c + 1)) (drop_part L (c + 1))⟩
  clear h
  have hi1 : (c : Int) + 1 ≤ ((L.length : Nat) : Int) := by omega
  have hi2 : (0 : Int) ≤ (c : Int) := by omega
  have hi3 : (c : Int) ≤ (cap : Int) := by omega
  have hi4 : (c : Int) + 1 ≤ (cap : Int) := by omega
  have hi5 : ((L.length : Nat) : Int) ≤ (cap : Int) := by omega
  have hi6 : (0 : Int) ≤ (c : Int) + 1 := by omega
  have hi7 : IntKind.i64.wrap (c : Int) = (c : Int) := by rw [IntKind.wrap_i64]; omega
  have tok1 : True := trivial
  have tok2 : True := trivial
  go_enter Try.func20, Try.ntmps20
  go_wp2_with fail
  refine hat.mono ?_
  rintro e w' ⟨rfl, rfl⟩
  clear hat
  go_wp2_with fail
  go_region_law
    (first
      | (have _t := tok1; refine step_putS (by rfl) _ _ (by rfl) P0.out.drew 0 (by rfl) (by rfl) ⟨rb, 0, none⟩ c cap (L.take c) (by rfl) N1.out (P0.out.drew.row.part 0 (L.take c) (take_part L c)) (by omega) ?_; intro g1 cap1 w1 hP1; have hc1 := hP1.c0; have P1 : Hid (Put w' w1 db rb cap L (g : Int) g1 cap1 ([] ++ L.take c)) := hP1; clear hP1 tok1)
      | (have _t := tok2; refine step_putS (by rfl) _ _ (by rfl) P1.out c N3.out (by rfl) A (L.length - (c + 1)) (cap - (c + 1)) (L.drop (c + 1)) (by rfl) N2.out (hAn.out _ P1.out.row) (by omega) ?_; intro g2 cap2 w2 hP2; have hc2 := hP2.c0; have hf2 := hP2.fz; have P2 : Hid (Put w' w2 db rb cap L (g : Int) g2 cap2 ([] ++ L.take c ++ L.drop (c + 1))) := hP2; clear hP2 tok2))
  all_goals
    go_wp2
    go_ret
    have hd := Put.done (g := g) P2.out
    have e1 : ([] ++ L.take c ++ L.drop (c + 1)).length = c + (L.length - (c + 1)) := by
      have h1 := N2.out
      have h2 := N3.out
      rw [List.length_append, h1, h2]
    rw [e1] at hd
    refine ⟨rfl, g2, cap2, P2.out.new, ?_, hd.2⟩
    have e2 : ([] ++ L.take c ++ L.drop (c + 1)) = del c L := by simp [del]
    rw [← e2]
    exact hd.1

set_option maxRecDepth 100000 in
set_option maxHeartbeats 400000 in
theorem rdrop_none (w : World) (db t : Nat) (k : Int) (hk : k ≤ 0) (hat : Calls Try.prog 28 #[.pointer (some ⟨db, 0, none⟩), .int .u64 (t : Int)] w fun e w' => e = .returned (.int .i64 k) ∧ w' = w) :
    Calls Try.prog 20 #[.pointer (some ⟨db, 0, none⟩), .int .u64 (t : Int)] w fun e w' => e = .returned (.int .i64 10) ∧ w' = w := by
  go_enter Try.func20, Try.ntmps20
  go_wp2_with fail
  refine hat.mono ?_
  rintro e w' ⟨rfl, rfl⟩
  go_wp2
  go_ret
  exact ⟨rfl, rfl⟩

theorem rdrop_any (w : World) (db : Nat) (sl : Option (Nat × Nat)) (L : List Nat) (g t : Nat) (h : RefAt w db sl L g) (hlen : L.length ≤ 8192) :
    Calls Try.prog 20 #[.pointer (some ⟨db, 0, none⟩), .int .u64 (t : Int)] w fun e w' => e = .returned (.int .i64 (dropAns L t : Int)) ∧
      ∃ sl', RefAt w' db sl' (dropT L t) g ∧ Turn (fun b => b = db) w w' ∧ (∀ k, ROwn db sl' k → ROwn db sl k ∨ w.heap.size ≤ k) := by
  have hat := rat_any w db sl L g t h hlen
  by_cases hx : ∃ c, pos L t = some (c + 1)
  · obtain ⟨c, hp⟩ := hx
    have e1 : atI L t = (c : Int) + 1 := by simp only [atI, hp]; omega
    rw [e1] at hat
    have hcl := pos_le hp
    cases sl with
    | none =>
      have hL : L = [] := h.row
      subst hL
      simp at hcl
    | some p =>
      refine (rdrop_some w db p.1 p.2 c g L t hat h hlen (by omega)).mono ?_
      rintro e w' ⟨rfl, g3, cap3, hn, hR, hT⟩
      refine ⟨by simp [dropAns, hp], some (g3, cap3), ?_, hT, ?_⟩
      · simp only [dropT, hp]
        exact hR
      · rintro k (hk | ⟨cap', e⟩)
        · exact .inl (.inl hk)
        · cases e
          exact .inr hn
  · have e1 : atI L t ≤ 0 ∧ dropAns L t = 10 ∧ dropT L t = L := by
      unfold atI dropAns dropT
      cases hp : pos L t with
      | none => exact ⟨by decide, rfl, rfl⟩
      | some c =>
        cases c with
        | zero => exact ⟨by simp, rfl, rfl⟩
        | succ c => exact absurd ⟨c, hp⟩ hx
    obtain ⟨h1, h2, h3⟩ := e1
    rw [h2, h3]
    refine (rdrop_none w db t _ h1 hat).mono ?_
    rintro e w' ⟨rfl, rfl⟩
    exact ⟨rfl, sl, h, Turn.refl _ _, fun k hk => .inl hk⟩

end Go.Proofs.Ytkppcnednfjbhaa
