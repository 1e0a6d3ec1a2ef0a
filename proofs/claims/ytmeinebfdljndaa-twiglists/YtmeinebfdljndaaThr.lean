/- through: both lists at once, whoever is told. -/
import Derived.Test.YtmeinebfdljndaaJp
namespace Go.Proofs.Ytmeinebfdljndaa
open Go.RowKit
set_option linter.unusedVariables false

/-- Only blocks of A are turned, and new ones. -/
structure Tn (A : Nat → Prop) (w w' : World) : Prop where
  os : w'.os = w.os
  tape : w'.tape = w.tape
  output : w'.output = w.output
  size : w.heap.size ≤ w'.heap.size
  block : ∀ k, k < w.heap.size → ¬ A k → w'.heap[k]? = w.heap[k]?
theorem Tn.refl (A : Nat → Prop) (w : World) : Tn A w w := ⟨rfl, rfl, rfl, Nat.le_refl _, fun _ _ _ => rfl⟩
theorem Tn.mono {A B : Nat → Prop} {a b : World} (h : Tn A a b) (hAB : ∀ k, k < a.heap.size → A k → B k) : Tn B a b :=
  ⟨h.os, h.tape, h.output, h.size, fun i hi hb => h.block i hi (fun ha => hb (hAB i hi ha))⟩
/-- What is behind may turn what is new besides. -/
theorem Tn.trans {A B : Nat → Prop} {a b c : World} (h : Tn A a b) (k : Tn B b c) (hB : ∀ i, i < a.heap.size → B i → A i) : Tn A a c :=
  ⟨k.os.trans h.os, k.tape.trans h.tape, k.output.trans h.output, Nat.le_trans h.size k.size, fun i hi ha => (k.block i (Nat.lt_of_lt_of_le hi h.size) (fun hb => ha (hB i hi hb))).trans (h.block i hi ha)⟩
theorem Tn.of_below {A : Nat → Prop} {B : Nat} {a b : World} (h : Below B a b) (hB : a.heap.size ≤ B) : Tn A a b := ⟨h.os, h.tape, h.output, h.size, fun i hi _ => h.block i (by omega)⟩
theorem Tn.below {A : Nat → Prop} {B : Nat} {a b : World} (h : Tn A a b) (hB : B ≤ a.heap.size) (hA : ∀ k, A k → B ≤ k) : Below B a b :=
  ⟨h.os, h.tape, h.output, h.size, fun k hk => h.block k (by omega) (fun ha => by have := hA k ha; omega)⟩
theorem Tn.set {A : Nat → Prop} {a w : World} (h : Tn A a w) {p : Addr} (hp : A p.block ∨ a.heap.size ≤ p.block) (u : Value) : Tn A a (w.setCell p u) :=
  ⟨h.os, h.tape, h.output, Nat.le_trans h.size (by simp [World.setCell]), fun k hk ha => (Below.heap_setCell _ _ _ _ (fun e => by
    rcases hp with hp | hp
    · exact ha (by rw [e]; exact hp)
    · omega)).trans (h.block k hk ha)⟩
theorem Tn.alloc {A : Nat → Prop} {a w : World} (h : Tn A a w) (o : Obj) : Tn A a (w.alloc o) :=
  ⟨h.os, h.tape, h.output, Nat.le_trans h.size (by simp), fun k hk ha => (Below.heap_alloc _ _ _ (Nat.lt_of_lt_of_le hk h.size)).trans (h.block k hk ha)⟩
theorem Tn.drew {A : Nat → Prop} {a w : World} (h : Tn A a w) : Tn A a w.drew := ⟨h.os, h.tape, h.output, h.size, h.block⟩
theorem Tn.drewN {A : Nat → Prop} {a w : World} (h : Tn A a w) (n : Nat) : Tn A a (w.drewN n) := ⟨h.os, h.tape, h.output, h.size, h.block⟩
theorem Tn.cell {A : Nat → Prop} {w w' : World} (h : Tn A w w') {b o : Nat} (hb : b < w.heap.size) (hA : ¬ A b) : w'.cell? ⟨b, o, none⟩ = w.cell? ⟨b, o, none⟩ := by
  simp [World.cell?, h.block b hb hA]
theorem IsCells.tn {A : Nat → Prop} {w w' : World} {b : Nat} {cs : Array Value} (h : IsCells w b cs) (ht : Tn A w w') (hb : ¬ A b) : IsCells w' b cs := h.of_block (ht.block b h.lt hb)

/-- Nodes with their spans in memory, wherever they begin. -/
def PlsAt (w : World) (B : Nat) (a : Option Addr) (L : List Pl) : Prop :=
  ∀ i x, L[i]? = some x → ∃ b o, a = some ⟨b, o, none⟩ ∧ b < B ∧ w.cell? ⟨b, o + i * 4, none⟩ = some (.int .u64 x.n) ∧ w.cell? ⟨b, o + i * 4 + 1, none⟩ = some (.int .u64 x.s.b) ∧ w.cell? ⟨b, o + i * 4 + 2, none⟩ = some (.int .u64 x.s.e) ∧ w.cell? ⟨b, o + i * 4 + 3, none⟩ = some (.int .i64 x.s.l)
theorem PlsAt.below {w w' : World} {B : Nat} {a : Option Addr} {L : List Pl} (h : PlsAt w B a L) {B' : Nat} (hb : Below B' w w') (hB : B ≤ B') : PlsAt w' B a L := by
  intro i x hx
  obtain ⟨b, o, h1, h2, h3, h4, h5, h6⟩ := h i x hx
  have e : ∀ o', w'.cell? ⟨b, o', none⟩ = w.cell? ⟨b, o', none⟩ := fun o' => hb.cell (p := ⟨b, o', none⟩) (show b < B' by omega)
  exact ⟨b, o, h1, h2, (e _).trans h3, (e _).trans h4, (e _).trans h5, (e _).trans h6⟩
theorem PlsAt.more {w : World} {B B' : Nat} {a : Option Addr} {L : List Pl} (h : PlsAt w B a L) (hB : B ≤ B') : PlsAt w B' a L := by
  intro i x hx
  obtain ⟨b, o, h1, h2, h3⟩ := h i x hx
  exact ⟨b, o, h1, by omega, h3⟩

/-- Whoever is told: what is so when so many of both were told, his blocks, the world. -/
abbrev ThI := Nat → Nat → (Nat → Prop) → World → Prop
structure ThOk (I : ThI) (B : Nat) : Prop where
  lt : ∀ {k i C W}, I k i C W → B ≤ W.heap.size ∧ ∀ b, C b → B ≤ b ∧ b < W.heap.size
  stab : ∀ {k i C A W W'}, I k i C W → Tn A W W' → (∀ b, A b → B ≤ b ∧ ¬ C b) → I k i C W'
def ThP (I : ThI) (k i : Nat) (C : Nat → Prop) (W : World) (e : Ending) (W' : World) : Prop := (∃ v, e = .returned v) ∧ ∃ C', Tn C W W' ∧ (∀ b, C' b → C b ∨ W.heap.size ≤ b) ∧ I k i C' W'
/-- Where we are since W. -/
def ThS (I : ThI) (k i : Nat) (C : Nat → Prop) (W : World) (W' : World) : Prop := ∃ C', Tn C W W' ∧ (∀ b, C' b → C b ∨ W.heap.size ≤ b) ∧ I k i C' W'
theorem ThS.then {I : ThI} {k i : Nat} {C C' : Nat → Prop} {W W1 W2 : World} (h : ThS I k i C' W1 W2) (h1 : Tn C W W1) (h2 : ∀ b, C' b → C b ∨ W.heap.size ≤ b) : ThS I k i C W W2 := by
  obtain ⟨C2, t, hc, hi⟩ := h
  refine ⟨C2, h1.trans t (fun b hb hcb => (h2 b hcb).elim id (fun h => by omega)), fun b hb => ?_, hi⟩
  rcases hc b hb with h | h
  · exact h2 b h
  · exact .inr (Nat.le_trans h1.size h)

/-- Within a round: the box of the one that comes is there besides. -/
def ThX (I : ThI) (k i : Nat) (C : Nat → Prop) (W : World) (xb : Nat) (y : Pl) (W' : World) : Prop :=
  ∃ C', Tn C W W' ∧ (∀ b, C' b → C b ∨ W.heap.size ≤ b) ∧ I k i C' W' ∧ ¬ C' xb ∧ IsCells W' xb #[.int .u64 y.n, .int .u64 y.s.b, .int .u64 y.s.e, .int .i64 y.s.l]
theorem ThX.drewN {I : ThI} {B k i : Nat} {C : Nat → Prop} {W W1 : World} {xb : Nat} {y : Pl} (hI : ThOk I B) (h : ThX I k i C W xb y W1) (n : Nat) : ThX I k i C W xb y (W1.drewN n) := by
  obtain ⟨C2, t2, hc2, hi2, hn2, hx2⟩ := h
  have t0 : Tn (fun _ => False) W1 (W1.drewN n) := (Tn.refl _ _).drewN n
  exact ⟨C2, t2.trans t0 (fun _ _ h => h.elim), hc2, hI.stab hi2 t0 (fun _ h => h.elim), hn2, hx2.tn t0 id⟩
theorem ThX.call {I : ThI} {k' i' : Nat} {C C2 : Nat → Prop} {W W1 W2 : World} {xb : Nat} {y : Pl} (t : Tn C W W1) (hc : ∀ b, C2 b → C b ∨ W.heap.size ≤ b) (hn : ¬ C2 xb) (hx : IsCells W1 xb #[.int .u64 y.n, .int .u64 y.s.b, .int .u64 y.s.e, .int .i64 y.s.l]) (h : ThS I k' i' C2 W1 W2) : ThX I k' i' C W xb y W2 ∧ ThS I k' i' C W W2 := by
  obtain ⟨C3, t3, hc3, hi3⟩ := h
  have h1 : Tn C W W2 := t.trans t3 (fun b hb hcb => (hc b hcb).elim id (fun h => by omega))
  have h2 : ∀ b, C3 b → C b ∨ W.heap.size ≤ b := fun b hb => (hc3 b hb).elim (hc b) (fun h => .inr (Nat.le_trans t.size h))
  exact ⟨⟨C3, h1, h2, hi3, fun h => (hc3 _ h).elim hn (fun h => by have := hx.lt; omega), hx.tn t3 hn⟩, C3, h1, h2, hi3⟩

set_option maxRecDepth 100000 in
set_option maxHeartbeats 2000000 in
theorem through_any {I : ThI} {B : Nat} (hI : ThOk I B) {A D : List Pl} {a d : Option Addr} {ca cd : Nat} {gf hf : Nat} {lb hb : Array Value} (eg : ∀ args w, (callFunc gf args).run Try.prog w = .ok (.enter gf args) w) (eh : ∀ args w, (callFunc hf args).run Try.prog w = .ok (.enter hf args) w)
    (W : World) (C : Nat → Prop) (h0 : I 0 0 C W) (hA : PlsAt W B a A) (hD : PlsAt W B d D) (lA : A.length ≤ 8192) (lD : D.length ≤ 8192)
    (ho : ∀ k i C W x, A[k]? = some x → (∀ y, D[i]? = some y → x.s.b < y.s.b) → I k i C W → Calls Try.prog gf (#[.int .i64 (k : Int)] ++ lb) W (ThP I (k + 1) i C W))
    (hi : ∀ k i C W y, D[i]? = some y → (∀ x, A[k]? = some x → y.s.b ≤ x.s.b) → I k i C W → Calls Try.prog hf (#[.int .i64 (i : Int)] ++ hb) W (ThP I k (i + 1) C W)) :
    Calls Try.prog 112 #[.slice a A.length ca, .slice d D.length cd, .func (.func gf) #[] lb, .func (.func hf) #[] hb] W (ThP I A.length D.length C W) := by
  have HI : Hid (ThOk I B) := hI
  have HA : Hid (PlsAt W B a A) := hA
  have HD : Hid (PlsAt W B d D) := hD
  have HO : Hid (∀ k i C W x, A[k]? = some x → (∀ y, D[i]? = some y → x.s.b < y.s.b) → I k i C W → Calls Try.prog gf (#[.int .i64 (k : Int)] ++ lb) W (ThP I (k + 1) i C W)) := ho
  have HH : Hid (∀ k i C W y, D[i]? = some y → (∀ x, A[k]? = some x → y.s.b ≤ x.s.b) → I k i C W → Calls Try.prog hf (#[.int .i64 (i : Int)] ++ hb) W (ThP I k (i + 1) C W)) := hi
  have H0 : Hid (I 0 0 C W) := h0
  clear hI hA hD ho hi h0
  go_enter Try.func112, Try.ntmps112
  go_wp2
  go_loopw [8, 13] (fun u v wr => ∃ k i : Nat, k ≤ A.length ∧ i ≤ D.length ∧ u = .int .i64 (k : Int) ∧ v = .int .i64 (i : Int) ∧ Hid (ThS I k i C W wr)) (fun _ v _ => D.length - (intOf v).toNat)
  case atStart => exact ⟨0, 0, by omega, by omega, rfl, rfl, C, Tn.refl _ _, fun b hb => .inl hb, H0.out⟩
  case round =>
    obtain ⟨k, i, hk, hi, rfl, rfl, HS⟩ := hrel
    obtain ⟨C1, t1, hc1, hi1⟩ := HS.out
    have hCB : ∀ b, C b → B ≤ b := fun b hb => ((HI.out.lt H0.out).2 b hb).1
    have hWB : B ≤ W.heap.size := (HI.out.lt H0.out).1
    by_cases hlt : i < D.length
    · obtain ⟨y, hy⟩ : ∃ y, D[i]? = some y := ⟨_, List.getElem?_eq_getElem hlt⟩
      obtain ⟨b, o, rfl, hbl, c0, c1, c2, c3⟩ := (HD.out.below (t1.below hWB hCB) (Nat.le_refl _)) i y hy
      have hbw : b < wr.heap.size := Nat.lt_of_lt_of_le hbl (HI.out.lt hi1).1
      have HY : Hid (D[i]? = some y) := hy
      have HX : Hid (ThX I k i C W wr.heap.size y (wr.alloc (.cells #[.int .u64 y.n, .int .u64 y.s.b, .int .u64 y.s.e, .int .i64 y.s.l] 38))) :=
        ⟨C1, t1.alloc _, hc1, HI.out.stab hi1 ((Tn.refl (fun _ => False) _).alloc _) (fun _ h => h.elim), fun h => by have := ((HI.out.lt hi1).2 _ h).2; omega, isCells_new _ _ _⟩
      clear t1 hc1 hi1 hy
      have hs1 : wr.heap.size < (wr.alloc (.cells #[.int .u64 y.n, .int .u64 y.s.b, .int .u64 y.s.e, .int .i64 y.s.l] 38)).heap.size := by simp
      go_wp2
      clear HS c0 c1 c2 c3 hbw
      generalize wr.alloc (.cells #[.int .u64 y.n, .int .u64 y.s.b, .int .u64 y.s.e, .int .i64 y.s.l] 38) = W1 at *
      generalize wr.heap.size = G at *
      clear wr
      go_loopw [8] (fun u wr => ∃ k : Nat, k ≤ A.length ∧ u = .int .i64 (k : Int) ∧ G < wr.heap.size ∧ Hid (ThX I k i C W G y wr)) (fun u _ => A.length - (intOf u).toNat)
      case atStart => exact ⟨k, hk, rfl, hs1, HX.out⟩
      case round =>
        clear HX
        obtain ⟨k, hk, rfl, hsz, HX⟩ := hrel
        obtain ⟨C2, t2, hc2, hi2, hn2, hx2⟩ := HX.out
        have q1 : wr.cell? ⟨G, 1, none⟩ = some (.int .u64 y.s.b) := hx2.cell 1
        -- the inner one is told
        have tellI : (∀ x, A[k]? = some x → y.s.b ≤ x.s.b) → ∀ n, Calls Try.prog hf (#[.int .i64 (i : Int)] ++ hb) (wr.drewN n) fun e W' => (∃ v, e = .returned v) ∧ Hid (ThS I k (i + 1) C W W') := by
          intro hle n
          obtain ⟨C2, t2, hc2, hi2, hn2, hx2⟩ := ThX.drewN HI.out HX.out n
          refine (HH.out k i C2 _ y HY.out hle hi2).mono ?_
          rintro e W' ⟨hv, hS⟩
          exact ⟨hv, (ThX.call t2 hc2 hn2 hx2 hS).2⟩
        by_cases hk1 : k < A.length
        · obtain ⟨x, hx⟩ : ∃ x, A[k]? = some x := ⟨_, List.getElem?_eq_getElem hk1⟩
          obtain ⟨ab, ao, rfl, hal, a0, a1, a2, a3⟩ := (HA.out.below (t2.below hWB hCB) (Nat.le_refl _)) k x hx
          have haw : ab < wr.heap.size := Nat.lt_of_lt_of_le hal (HI.out.lt hi2).1
          have hg1 : decide ((k : Int) < (A.length : Int)) = true := by simp; omega
          have hg2 : decide (k < A.length) = true := by simp; omega
          by_cases hb : x.s.b < y.s.b
          · have hg3 : decide (x.s.b < y.s.b) = true := by simp [hb]
            have tellO : ∀ n, Calls Try.prog gf (#[.int .i64 (k : Int)] ++ lb) (wr.drewN n) fun e W' => (∃ v, e = .returned v) ∧ G < W'.heap.size ∧ Hid (ThX I (k + 1) i C W G y W') := by
              intro n
              obtain ⟨C2, t2, hc2, hi2, hn2, hx2⟩ := ThX.drewN HI.out HX.out n
              refine (HO.out k i C2 _ x hx (fun y' hy' => ?_) hi2).mono ?_
              · have := HY.out
                rw [hy'] at this
                cases this
                exact hb
              · rintro e W' ⟨hv, hS⟩
                have h := (ThX.call t2 hc2 hn2 hx2 hS).1
                refine ⟨hv, ?_, h⟩
                obtain ⟨_, _, _, _, _, h⟩ := h
                exact h.lt
            clear t2 hc2 hi2 hn2 hx2 tellI hb hx
            go_wp2
            go_quiet (fail)
            go_wp2_with fail
            with_reducible refine (tellO _).mono ?_
            rintro e W' ⟨⟨v, rfl⟩, hs2, HX2⟩
            clear tellO
            go_wp2
            go_roundw
            case rel => exact ⟨k + 1, by omega, by go_num, hs2, HX2⟩
            case measure => simp [intOf]; omega
          · have hg3 : decide (x.s.b < y.s.b) = false := by simp; omega
            have hle := tellI (fun x' hx' => by rw [hx] at hx'; cases hx'; omega)
            clear t2 hc2 hi2 hn2 hx2 tellI hb hx
            go_wp2
            go_quiet (fail)
            go_wp2_with fail
            with_reducible refine (hle _).mono ?_
            rintro e W' ⟨⟨v, rfl⟩, HX2⟩
            clear hle
            go_wp2
            go_roundw
            case rel => exact ⟨k, i + 1, hk, by omega, rfl, by go_num, HX2⟩
            case measure => simp [intOf]; omega
        · have hg1 : decide ((k : Int) < (A.length : Int)) = false := by simp; omega
          have hg2 : decide (k < A.length) = false := by simp; omega
          have hle := tellI (fun x' hx' => by rw [List.getElem?_eq_none (by omega)] at hx'; cases hx')
          clear t2 hc2 hi2 hn2 hx2 tellI
          go_wp2
          go_quiet (fail)
          go_wp2_with fail
          with_reducible refine (hle _).mono ?_
          rintro e W' ⟨⟨v, rfl⟩, HX2⟩
          clear hle
          go_wp2
          go_roundw
          case rel => exact ⟨k, i + 1, hk, by omega, rfl, by go_num, HX2⟩
          case measure => simp [intOf]; omega
    · have HE : Hid (D.length = i) := by show _ = _; omega
      clear C1 t1 hc1 hi1
      go_wp2
      go_loopw [8] (fun u wr => ∃ k : Nat, k ≤ A.length ∧ u = .int .i64 (k : Int) ∧ Hid (ThS I k i C W wr)) (fun u _ => A.length - (intOf u).toNat)
      case atStart => exact ⟨k, hk, rfl, HS.out⟩
      case round =>
        clear HS
        obtain ⟨k, hk, rfl, HS⟩ := hrel
        by_cases hk1 : k < A.length
        · obtain ⟨x, hx⟩ : ∃ x, A[k]? = some x := ⟨_, List.getElem?_eq_getElem hk1⟩
          obtain ⟨C2, t2, hc2, hi2⟩ := HS.out
          have hO : Calls Try.prog gf (#[.int .i64 (k : Int)] ++ lb) wr fun e W' => (∃ v, e = .returned v) ∧ Hid (ThS I (k + 1) i C W W') := by
            refine (HO.out k i C2 _ x hx (fun y' hy' => ?_) hi2).mono ?_
            · rw [List.getElem?_eq_none (by have := HE.out; omega)] at hy'
              cases hy'
            · rintro e W' ⟨hv, hS⟩
              exact ⟨hv, ThS.then hS t2 hc2⟩
          clear t2 hc2 hi2 hx
          go_wp2_with fail
          with_reducible refine hO.mono ?_
          rintro e W' ⟨⟨v, rfl⟩, HX2⟩
          clear hO
          go_wp2
          go_roundw
          case rel => exact ⟨k + 1, by omega, by go_num, HX2⟩
          case measure => simp [intOf]; omega
        · have HZ : Hid (ThS I A.length D.length C W wr) := by
            have h := HS.out
            rw [show k = A.length by omega, ← HE.out] at h
            exact h
          go_wp2
          refine bodyPost_end (results_none rfl _ _ _) rfl ?_
          exact ⟨⟨_, rfl⟩, HZ.out⟩

end Go.Proofs.Ytmeinebfdljndaa
