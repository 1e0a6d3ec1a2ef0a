/- What the document's After answers and leaves. -/
import Derived.Test.YtkppcnednfjbhaaRefPut
namespace Go.Proofs.Ytkppcnednfjbhaa
open Go.RowKit Go.Maps

set_option maxRecDepth 100000 in
set_option maxHeartbeats 1000000 in
theorem rput_nil (w : World) (db g : Nat) (t : Nat) (hat : Calls Try.prog 28 #[.pointer (some ⟨db, 0, none⟩), .int .u64 (t : Int)] w fun e w' => e = .returned (.int .i64 0) ∧ w' = w)
    (h : RefAt w db none [] g) (hg : g < 18446744073709551615) :
    Calls Try.prog 10 #[.pointer (some ⟨db, 0, none⟩), .int .u64 (t : Int)] w fun e w' => e = .returned (.tuple #[.int .u64 ((g : Int) + 1), .int .i64 0]) ∧
      ∃ g3 cap3, w.heap.size ≤ g3 ∧ RefAt w' db (some (g3, cap3)) (ins 0 (g + 1) []) (g + 1) ∧ Turn (fun b => b = db) w w' := by
  have hds := h.head.lt
  have hv : w.cell? ⟨db, 0, none⟩ = some (.slice none 0 0) := by rw [h.head.cell]; rfl
  have hgv : w.cell? ⟨db, 1, none⟩ = some (.int .u64 (g : Int)) := by rw [h.head.cell]; rfl
  have hf : ∀ k, w.frozen? ⟨db, k, none⟩ = false := fun k => h.head.frozen k
  have H1 : Hid (IsCells (((w.setCell ⟨db, 1, none⟩ (.int .u64 ((g : Int) + 1))).alloc (.cells #[] 26)).alloc (.cells #[.int .u64 ((g : Int) + 1)] 26)) db #[.slice none 0 0, .int .u64 ((g : Int) + 1)]) := ((h.head.set 1 (.int .u64 ((g : Int) + 1))).alloc _).alloc _
  have H2 : Hid ((((w.setCell ⟨db, 1, none⟩ (.int .u64 ((g : Int) + 1))).alloc (.cells #[] 26)).alloc (.cells #[.int .u64 ((g : Int) + 1)] 26)).ownsRow 0 26 1 (.slice (some ⟨w.heap.size, 0, none⟩) 0 0) 0 []) := by
    have := owns_empty (w.setCell ⟨db, 1, none⟩ (.int .u64 ((g : Int) + 1)))
    rw [size_set] at this
    exact this.alloc _
  have H3 : Hid (∀ j u, [(.int .u64 ((g : Int) + 1) : Value)][j]? = some u → (((w.setCell ⟨db, 1, none⟩ (.int .u64 ((g : Int) + 1))).alloc (.cells #[] 26)).alloc (.cells #[.int .u64 ((g : Int) + 1)] 26)).cell? ((⟨w.heap.size + 1, 0, none⟩ : Addr).add j) = some u) := by
    have := cell_one_new ((w.setCell ⟨db, 1, none⟩ (.int .u64 ((g : Int) + 1))).alloc (.cells #[] 26)) (.int .u64 ((g : Int) + 1)) 26
    rw [show ((w.setCell ⟨db, 1, none⟩ (.int .u64 ((g : Int) + 1))).alloc (.cells #[] 26)).heap.size = w.heap.size + 1 from by simp] at this
    exact this
  have H4 : Hid (Turn (fun b => b = db) w (((w.setCell ⟨db, 1, none⟩ (.int .u64 ((g : Int) + 1))).alloc (.cells #[] 26)).alloc (.cells #[.int .u64 ((g : Int) + 1)] 26))) := (((Turn.refl (fun b => b = db) w).setCell (p := ⟨db, 1, none⟩) rfl _).alloc _).alloc _
  clear h
  have tok1 : True := trivial
  have tok2 : True := trivial
  have tok3 : True := trivial
  go_enter Try.func10, Try.ntmps10
  go_wp2_with fail
  refine hat.mono ?_
  rintro e w' ⟨rfl, rfl⟩
  clear hat
  go_wp2_with (first
    | (at_builtin; have _t := tok1; refine wpList_put_nil _ rfl _ _ rfl w'.heap.size 0 0 rfl rfl (Nat.le_refl _) ?_; clear tok1)
    | (at_builtin; have _t := tok2; refine wpList_put _ rfl _ _ rfl w'.heap.size 0 0 [] rfl H2.out ⟨w'.heap.size + 1, 0, none⟩ 1 1 [.int .u64 ((g : Int) + 1)] rfl rfl H3.out (by simp [Value.oneCell']) (by omega) ?_; intro g2 cap2 w2 hown2 hgrow2 hlie2
       have hd2 : IsCells w2 db #[.slice none 0 0, .int .u64 ((g : Int) + 1)] := H1.out.of_block (hgrow2.block _ H1.out.lt (fun e => by simp only [Option.some.injEq] at e; omega))
       have hc0 : w2.cell? ⟨db, 0, none⟩ = some (.slice none 0 0) := by rw [hd2.cell]; rfl
       have hc1 : w2.cell? ⟨db, 1, none⟩ = some (.int .u64 ((g : Int) + 1)) := by rw [hd2.cell]; rfl
       have hf2 : ∀ k, w2.frozen? ⟨db, k, none⟩ = false := fun k => hd2.frozen k
       have HD : Hid (IsCells w2 db #[.slice none 0 0, .int .u64 ((g : Int) + 1)]) := hd2
       have HG := hgrow2
       have HR : Hid (RowAt w2 [g + 1] (some (g2, cap2))) := owns_row hown2
       have hcap : 1 ≤ cap2 := by obtain ⟨_, _, h1, _⟩ := HR.out; simpa using h1
       have HT : Hid (Turn (fun b => b = db) w' w2) := ⟨hgrow2.os.trans H4.out.os, hgrow2.tape.trans H4.out.tape, hgrow2.output.trans H4.out.output, Nat.le_trans H4.out.size hgrow2.size, fun k hk hkd => (hgrow2.block k (Nat.lt_of_lt_of_le hk H4.out.size) (fun e => by simp only [Option.some.injEq] at e; omega)).trans (H4.out.block k hk hkd)⟩
       have HN : Hid (w'.heap.size ≤ g2) := by
         show _ ≤ _
         rcases hlie2 with e | e
         · omega
         · rw [e]; exact H4.out.size
       clear hd2 hown2 hgrow2 hlie2 HG tok2)
    | (at_builtin; have _t := tok3; refine wpList_put_nil _ rfl _ _ rfl g2 1 cap2 rfl rfl hcap ?_; clear tok3))
  go_ret2
  have hne : g2 ≠ db := by have := HN.out; omega
  refine ⟨rfl, g2, cap2, HN.out, ⟨?_, ?_, ?_⟩, HT.out.setCell (p := ⟨db, 0, none⟩) rfl _⟩
  · have := HD.out.set 0 (.slice (some ⟨g2, 0, none⟩) 1 cap2)
    simpa [slv, ins] using this
  · exact HR.out.of_block (fun rb' cap' e => by cases e; exact Below.heap_setCell _ _ _ _ hne)
  · intro rb' cap' e
    cases e
    exact hne

set_option maxRecDepth 100000 in
set_option maxHeartbeats 400000 in
theorem rafter_none (w : World) (db t : Nat) (hat : Calls Try.prog 28 #[.pointer (some ⟨db, 0, none⟩), .int .u64 (t : Int)] w fun e w' => e = .returned (.int .i64 (-1)) ∧ w' = w) :
    Calls Try.prog 10 #[.pointer (some ⟨db, 0, none⟩), .int .u64 (t : Int)] w fun e w' => e = .returned (.tuple #[.int .u64 0, .int .i64 10]) ∧ w' = w := by
  go_enter Try.func10, Try.ntmps10
  go_wp2_with fail
  refine hat.mono ?_
  rintro e w' ⟨rfl, rfl⟩
  go_wp2
  go_ret2
  exact ⟨rfl, rfl⟩

set_option maxRecDepth 100000 in
set_option maxHeartbeats 400000 in
theorem rafter_full (w : World) (db t k n : Nat) (a : Option Addr) (cap : Nat) (hat : Calls Try.prog 28 #[.pointer (some ⟨db, 0, none⟩), .int .u64 (t : Int)] w fun e w' => e = .returned (.int .i64 (k : Int)) ∧ w' = w)
    (hv : w.cell? ⟨db, 0, none⟩ = some (.slice a n cap)) (hn : 8192 ≤ n) :
    Calls Try.prog 10 #[.pointer (some ⟨db, 0, none⟩), .int .u64 (t : Int)] w fun e w' => e = .returned (.tuple #[.int .u64 0, .int .i64 11]) ∧ w' = w := by
  have hn' : 8192 ≤ (n : Int) := by omega
  go_enter Try.func10, Try.ntmps10
  go_wp2_with fail
  refine hat.mono ?_
  rintro e w' ⟨rfl, rfl⟩
  go_wp2
  go_ret2
  exact ⟨rfl, rfl⟩

theorem rafter_any (w : World) (db : Nat) (sl : Option (Nat × Nat)) (L : List Nat) (g t : Nat) (h : RefAt w db sl L g) (hlen : L.length ≤ 8192) (hg : g < 18446744073709551615) :
    Calls Try.prog 10 #[.pointer (some ⟨db, 0, none⟩), .int .u64 (t : Int)] w fun e w' => e = .returned (.tuple #[.int .u64 ((afterAns L g t).1 : Int), .int .i64 ((afterAns L g t).2 : Int)]) ∧
      ∃ sl', RefAt w' db sl' (afterT L g t) (afterG L g t) ∧ Turn (fun b => b = db) w w' ∧ (∀ k, ROwn db sl' k → ROwn db sl k ∨ w.heap.size ≤ k) := by
  have hat := rat_any w db sl L g t h hlen
  cases hp : pos L t with
  | none =>
    have e1 : atI L t = -1 := by simp only [atI, hp]
    rw [e1] at hat
    refine (rafter_none w db t hat).mono ?_
    rintro e w' ⟨rfl, rfl⟩
    refine ⟨by simp [afterAns, hp], sl, ?_, Turn.refl _ _, fun k hk => .inl hk⟩
    simp only [afterT, afterG, hp]
    exact h
  | some c =>
    have e1 : atI L t = (c : Int) := by simp only [atI, hp]
    rw [e1] at hat
    have hcl := pos_le hp
    by_cases hl : 8192 ≤ L.length
    · obtain ⟨a, cap, hv, _⟩ := h.slice
      refine (rafter_full w db t c L.length a cap hat hv hl).mono ?_
      rintro e w' ⟨rfl, rfl⟩
      refine ⟨by simp [afterAns, hp, hl], sl, ?_, Turn.refl _ _, fun k hk => .inl hk⟩
      simp only [afterT, afterG, hp, if_pos hl]
      exact h
    · have key : Calls Try.prog 10 #[.pointer (some ⟨db, 0, none⟩), .int .u64 (t : Int)] w fun e w' => e = .returned (.tuple #[.int .u64 ((g : Int) + 1), .int .i64 0]) ∧
          ∃ g3 cap3, w.heap.size ≤ g3 ∧ RefAt w' db (some (g3, cap3)) (ins c (g + 1) L) (g + 1) ∧ Turn (fun b => b = db) w w' := by
        cases sl with
        | none =>
          have hL : L = [] := h.row
          subst hL
          have hc0 : c = 0 := by simpa using hcl
          subst hc0
          exact rput_nil w db g t hat h hg
        | some p => exact rput_some w db p.1 p.2 c g L t hat h (by omega) hcl hg
      refine key.mono ?_
      rintro e w' ⟨rfl, g3, cap3, hn, hR, hT⟩
      refine ⟨by simp [afterAns, hp, hl], some (g3, cap3), ?_, hT, ?_⟩
      · simp only [afterT, afterG, hp, if_neg hl]
        exact hR
      · rintro k (hk | ⟨cap', e⟩)
        · exact .inl (.inl hk)
        · cases e
          exact .inr hn

end Go.Proofs.Ytkppcnednfjbhaa
