/- runs: a call whose panic would be caught. -/
import Derived.Test.YtjkgjckkglfokaaLis
import Derived.Recover
namespace Go.Proofs.Ytjkgjckkglfokaa
open Go.RowKit Go.Shelf
set_option linter.unusedVariables false

theorem rec_idle (w : World) : CallsD Try.prog 95 #[] .returning w fun e u' w' => e = .returned (.tuple #[]) ∧ u' = .returning ∧ w' = w := by
  refine callsD_of_wpS Try.func95 rfl fun c₀ cs hu => ?_
  first
    | apply wpS_region
    | (apply wpS_seq; apply wpS_region)
  simp [wpOpsS, go_sem, recoverD, hu, Try.ntmps95]
  cases c₀
  simp_all [bodyPostS, results, Try.results95]

set_option maxRecDepth 100000 in
set_option maxHeartbeats 1000000 in
theorem runs_any (W : World) (mf : Nat) (ml : Array Value) (Q : World → Prop) (em : ∀ args w, (callFunc mf args).run Try.prog w = .ok (.enter mf args) w) (hc : Calls Try.prog mf ml W fun e Y => (∃ v, e = .returned v) ∧ Q Y) :
    Calls Try.prog 51 #[.func (.func mf) #[] ml] W fun e Y => e = .returned (.bool true) ∧ Q Y := by
  go_enter_defers Try.func51, Try.ntmps51
  go_wp2_with fail
  refine hc.mono ?_
  rintro e Y ⟨⟨v, rfl⟩, hq⟩
  have HQ : Hid (Q Y) := hq
  clear hq hc
  go_wp2
  refine leaves_cons (f := 95) (args := #[]) (by simp) (by simp [go_sem]) ?_
  refine (rec_idle _).mono ?_
  rintro e u' w6 ⟨rfl, rfl, rfl⟩
  exact ⟨_, results_tmp rfl _ _ _, rfl, HQ.out⟩

/-- What List answers: all of it, or that it is too long. -/
def ListP (xs : List Int) (T : Nat → Prop) (Sq : World → Prop) (most : Int) (W : World) (e : Ending) (Y : World) : Prop :=
  Tn T W Y ∧ Sq Y ∧ (((xs.length : Int) ≤ most ∧ ∃ a c, e = .returned (.tuple #[.slice a xs.length c, .int .i64 0]) ∧ Y.ownsRow W.heap.size 3 1 (.slice a xs.length c) xs.length (ivs xs)) ∨ (most < (xs.length : Int) ∧ e = .returned (.tuple #[.slice none 0 0, .int .i64 2])))

set_option maxRecDepth 100000 in
set_option maxHeartbeats 2000000 in
theorem list_any {gf : Nat} {lb : Array Value} {xs : List Int} {R T : Nat → Prop} {Sq : World → Prop} (hs : IsSeq Try.prog gf lb encI xs R T Sq) (eg : ∀ args w, (callFunc gf args).run Try.prog w = .ok (.enter gf args) w)
    (W : World) (hq : Sq W) (most : Int) (hm : 0 ≤ most) (hl : xs.length < 1099511627776) : Calls Try.prog 16 #[.func (.func gf) #[] lb, .int .i64 most] W (ListP xs T Sq most W) := by
  have hq1 : ∀ w, (binOp .eql 50 (.func (.func gf) #[] lb) .nilFunc).run Try.prog w = .ok (.bool false) w := fun _ => by kernel_rfl
  have hmf : ∀ (fn : Fn) (first cap : Array Value) (w : World), (Instr.makeFunc fn first cap).run Try.prog w = .ok (.func fn first cap) w := fun _ _ _ _ => rfl
  obtain ⟨W0, hW0⟩ : ∃ W0, ((((W.alloc (.cells #[.func (.func gf) #[] lb] 50)).alloc (.cells #[.int .i64 most] 3)).alloc (.cells #[.slice none 0 0] 47)).alloc (.cells #[.bool false] 4)) = W0 := ⟨_, rfl⟩
  have t0 : Tn (fun _ => False) W W0 := by rw [← hW0]; exact ((((Tn.refl _ _).alloc _).alloc _).alloc _).alloc _
  have hy0 : IsC W0 W.heap.size #[.func (.func gf) #[] lb] ∧ IsC W0 (W.heap.size + 1) #[.int .i64 most] ∧ IsC W0 (W.heap.size + 2) #[.slice none 0 0] ∧ IsC W0 (W.heap.size + 3) #[.bool false] := by
    have h1 := isC_new W #[.func (.func gf) #[] lb] 50
    have h2 := isC_new (W.alloc (.cells #[.func (.func gf) #[] lb] 50)) #[.int .i64 most] 3
    have h3 := isC_new ((W.alloc (.cells #[.func (.func gf) #[] lb] 50)).alloc (.cells #[.int .i64 most] 3)) #[.slice none 0 0] 47
    have h4 := isC_new (((W.alloc (.cells #[.func (.func gf) #[] lb] 50)).alloc (.cells #[.int .i64 most] 3)).alloc (.cells #[.slice none 0 0] 47)) #[.bool false] 4
    rw [← hW0]
    have n := fun (w : World) (o : Obj) => (Tn.refl (fun _ => False) w).alloc o
    refine ⟨((h1.tn (n _ _) id).tn (n _ _) id).tn (n _ _) id, ?_, ?_, ?_⟩
    · simpa using (h2.tn (n _ _) id).tn (n _ _) id
    · simpa using h3.tn (n _ _) id
    · simpa using h4
  have hRl : ∀ b, R b → b < W.heap.size := hs.lt _ hq
  have hl1 := list1_any hs eg W0 (hs.stab _ _ _ hq t0 (fun _ _ h => h)) W.heap.size (W.heap.size + 2) (W.heap.size + 1) (W.heap.size + 3) most hy0.1 hy0.2.2.1 hy0.2.1 hy0.2.2.2 hm (fun h => by have := hRl _ h; omega) (fun h => by have := hRl _ h; omega) (fun h => by have := hRl _ h; omega) (by omega) (by omega) (by omega) hl
  have hrun := runs_any W0 52 #[.pointer (some ⟨W.heap.size, 0, none⟩), .pointer (some ⟨W.heap.size + 2, 0, none⟩), .pointer (some ⟨W.heap.size + 1, 0, none⟩), .pointer (some ⟨W.heap.size + 3, 0, none⟩)] (fun Y => Tn (fun b => T b ∨ b = W.heap.size + 2 ∨ b = W.heap.size + 3) W0 Y ∧ Sq Y ∧ (((xs.length : Int) ≤ most ∧ IsC Y (W.heap.size + 3) #[.bool false] ∧ ∃ a c, IsC Y (W.heap.size + 2) #[.slice a xs.length c] ∧ Y.ownsRow W0.heap.size 3 1 (.slice a xs.length c) xs.length (ivs xs)) ∨ (most < (xs.length : Int) ∧ IsC Y (W.heap.size + 3) #[.bool true]))) (enters_of Try.func52 (by kernel_rfl) rfl) ((callsIn_wide (n := 0)).1 hl1)
  have HT0 : Hid (Tn (fun _ => False) W W0) := t0
  rw [← hW0] at hrun
  have HW0 : Hid (((((W.alloc (.cells #[.func (.func gf) #[] lb] 50)).alloc (.cells #[.int .i64 most] 3)).alloc (.cells #[.slice none 0 0] 47)).alloc (.cells #[.bool false] 4)) = W0) := hW0
  have hmb : ¬ most < 0 := by omega
  clear hl1 t0 hy0 hRl hs hq hW0
  go_enter Try.func16, Try.ntmps16
  go_wp2_with fail
  refine hrun.mono ?_
  rintro e Y ⟨rfl, h1, h2, h3⟩
  rw [HW0.out] at h1
  have HTY : Hid (Tn T W Y) := (HT0.out.mono (B := T) (fun _ _ h => h.elim)).trans h1 (fun i hi h => h.elim id (fun h => by omega))
  have HSY : Hid (Sq Y) := h2
  have hn1 : ∀ b w, (Op.unary UnOp.not (.bool b)).run Try.prog w = .ok (.bool (!b)) w := fun b _ => by cases b <;> kernel_rfl
  clear hrun h1 h2
  rcases h3 with ⟨g1, g2, a, c, g3, g4⟩ | ⟨g1, g2⟩
  · have c1 : Y.cell? ⟨W.heap.size + 3, 0, none⟩ = some (.bool false) := g2.cell 0
    have c2 : Y.cell? ⟨W.heap.size + 2, 0, none⟩ = some (.slice a xs.length c) := g3.cell 0
    have HO : Hid (Y.ownsRow W.heap.size 3 1 (.slice a xs.length c) xs.length (ivs xs)) := by
      rw [HW0.out] at g4
      refine ⟨g4.1, ?_⟩
      rcases g4.2 with hn | ⟨g, cap, cur, e, hb', r⟩
      · exact .inl hn
      · exact .inr ⟨g, cap, cur, e, Nat.le_trans HT0.out.size hb', r⟩
    clear g2 g3 g4
    go_wp2
    go_ret2
    exact ⟨HTY.out, HSY.out, .inl ⟨g1, a, c, rfl, HO.out⟩⟩
  · have c1 : Y.cell? ⟨W.heap.size + 3, 0, none⟩ = some (.bool true) := g2.cell 0
    clear g2
    go_wp2
    go_ret2
    exact ⟨HTY.out, HSY.out, .inr ⟨g1, rfl⟩⟩

end Go.Proofs.Ytjkgjckkglfokaa
