/- linked: Then, and what is no link. -/
import Derived.Test.YtjkgjckkglfokaaLk0
import Derived.Test.YtjkgjckkglfokaaThen2
import Derived.Test.YtjkgjckkglfokaaNil2
namespace Go.Proofs.Ytjkgjckkglfokaa
open Go.RowKit Go.Shelf
set_option linter.unusedVariables false

theorem Tn.cell {A : Nat → Prop} {w w' : World} (h : Tn A w w') {b o : Nat} (hb : b < w.heap.size) (hA : ¬ A b) : w'.cell? ⟨b, o, none⟩ = w.cell? ⟨b, o, none⟩ := by
  simp [World.cell?, h.block b hb hA]

set_option maxRecDepth 100000 in
set_option maxHeartbeats 4000000 in
theorem linked_then_nil {gf : Nat} {lb : Array Value} {xs : List Int} {R T : Nat → Prop} {Sq : World → Prop} (hs : IsSeq Try.prog gf lb encI xs R T Sq) (eg : ∀ args w, (callFunc gf args).run Try.prog w = .ok (.enter gf args) w)
    (N : Nat) (W : World) (hq : Sq W) (la : Option Addr) (lc : Nat) (K : Nat → Prop) (hL : NumsAt W K la xs) (hKT : ∀ b, K b → ¬ T b ∧ b < W.heap.size) (hl : xs.length ≤ 1048576) (ag : Int) (ma : Option Addr) (mn mc : Nat) :
    Calls Try.prog 14 #[.func (.func gf) #[] lb, .slice la xs.length lc, .agg (LinkC 4 ag ma mn mc true)] W (LinkP N W R T K (xs)) := by
  obtain ⟨W1, hW1⟩ : ∃ W1, W.alloc (.cells (LinkC 4 ag ma mn mc true) 56) = W1 := ⟨_, rfl⟩
  have HW1 : Hid (W.alloc (.cells (LinkC 4 ag ma mn mc true) 56) = W1) := hW1
  have hk : IsC W1 W.heap.size (LinkC 4 ag ma mn mc true) := by rw [← hW1]; exact isC_new _ _ _
  have t1 : Tn (fun _ => False) W W1 := by rw [← hW1]; exact (Tn.refl _ _).alloc _
  have HKb : Hid (IsC W1 W.heap.size (LinkC 4 ag ma mn mc true) ∧ Tn (fun _ => False) W W1) := ⟨hk, t1⟩
  have k0 : W1.cell? ⟨W.heap.size, 0, none⟩ = some (.int .i64 4) := hk.cell 0
  have k1 : W1.cell? ⟨W.heap.size, 1, none⟩ = some (.int .i64 ag) := hk.cell 1
  have k2 : W1.cell? ⟨W.heap.size, 2, none⟩ = some (.slice ma mn mc) := hk.cell 2
  have k3 : W1.cell? ⟨W.heap.size, 3, none⟩ = some (.bool true) := hk.cell 3
  have hkl := hk.lt
  have HL : Hid (NumsAt W K la xs ∧ ∀ b, K b → ¬ T b ∧ b < W.heap.size) := ⟨hL, hKT⟩
  have HS : Hid (IsSeq Try.prog gf lb encI xs R T Sq ∧ Sq W) := ⟨hs, hq⟩
  have HBW : Hid (W1.heap.size = W.heap.size + 1) := by show _ = _; rw [← hW1]; simp
  clear hW1 hk t1 hL hKT hs hq
  unfold LinkC at HW1
  unfold LinkC
  go_enter Try.func14, Try.ntmps14
  obtain ⟨W2, hW2⟩ : ∃ W2, W1.alloc (.cells #[.int .i64 0] 3) = W2 := ⟨_, rfl⟩
  obtain ⟨W3, hW3⟩ : ∃ W3, W2.alloc (.cells #[.func (.func gf) #[] lb, .nilFunc] 50) = W3 := ⟨_, rfl⟩
  have HW2 : Hid (W1.alloc (.cells #[.int .i64 0] 3) = W2) := hW2
  have HW3 : Hid (W2.alloc (.cells #[.func (.func gf) #[] lb, .nilFunc] 50) = W3) := hW3
  have t2 : Tn (fun _ => False) W1 W2 := by rw [← hW2]; exact (Tn.refl _ _).alloc _
  have t3 : Tn (fun _ => False) W2 W3 := by rw [← hW3]; exact (Tn.refl _ _).alloc _
  have hs2 : W2.heap.size = W.heap.size + 1 + 1 := by rw [← hW2]; have := HBW.out; simp; omega
  have y3 : IsC W3 (W.heap.size + 1 + 1) #[.func (.func gf) #[] lb, .nilFunc] := by rw [← hW3, ← hs2]; exact isC_new _ _ _
  have hth := callsIn_wide.1 (mk_then W3 (.func (.func gf) #[] lb) .nilFunc (W.heap.size + 1 + 1) 2 (y3.cell 0) (y3.cell 1) rfl rfl)
  have HT3 : Hid (Tn (fun _ => False) W W3 ∧ W.heap.size + 1 + 1 < W3.heap.size) := ⟨(HKb.out.2.trans t2 (fun _ _ h => h)).trans t3 (fun _ _ h => h), y3.lt⟩
  clear hW2 hW3 y3 t2 t3 hs2 k0 k1 k2 k3 hkl
  go_wp2_with fail
  rw [HW1.out, HW2.out, HW3.out]
  with_reducible refine hth.mono ?_
  rintro e Y ⟨ob, g, c, cs, rfl, p1, p2, p3, p4, p5, p6, p7⟩
  have HP : Hid (W3.heap.size ≤ ob ∧ W3.heap.size ≤ g ∧ cs[0]? = some (.func (.func gf) #[] lb) ∧ cs[1]? = some .nilFunc ∧ IsC Y ob #[.slice (some ⟨g, 0, none⟩) 2 c] ∧ IsC Y g cs ∧ Tn (fun _ => False) W3 Y) := ⟨p1, p2, p3, p4, p5, p6, p7⟩
  clear p1 p2 p3 p4 p5 p6 p7 hth
  go_wp2
  go_ret2
  obtain ⟨p1, p2, p3, p4, p5, p6, p7⟩ := HP.out
  have hRl : ∀ b, R b → b < W.heap.size := HS.out.1.lt W HS.out.2
  have hz := HT3.out.2
  have tW : Tn (fun _ => False) W Y := HT3.out.1.trans p7 (fun _ _ h => h)
  have ef : ∀ args w, (callFunc 94 args).run Try.prog w = .ok (.enter 94 args) w := fun _ _ => by kernel_rfl
  have hse := then_seq (ob := ob) (g := g) (c := c) (cs := cs) (HS.out.1.tell eg) nil_tell p3 p4 ⟨fun h => by have := hRl _ h; omega, fun h => by have := hRl _ h; omega⟩ ⟨id, id⟩ (fun b hb => hb.elim) (fun b _ h => h)
  rw [List.append_nil] at hse
  exact ⟨94, _, _, _, _, la, lc, K, rfl, ef, hse, ⟨HS.out.1.stab _ _ _ HS.out.2 tW (fun _ _ h => h), trivial, p5, p6⟩, HL.out.1.tn tW (fun _ _ h => h), fun b hb => ⟨fun h => h.elim (HL.out.2 b hb).1 id, Nat.lt_of_lt_of_le (HL.out.2 b hb).2 tW.size, .inl hb⟩, fun b hb => .inl (hb.elim id (fun h => h.elim)), tW, fun b hb => by rcases hb with hb | hb | hb | hb; exact .inl hb; exact hb.elim; exact .inr (.inl (by omega)); exact .inr (.inl (by omega))⟩

set_option maxRecDepth 100000 in
set_option maxHeartbeats 4000000 in
theorem linked_else {gf : Nat} {lb : Array Value} {xs : List Int} {R T : Nat → Prop} {Sq : World → Prop} (hs : IsSeq Try.prog gf lb encI xs R T Sq) (eg : ∀ args w, (callFunc gf args).run Try.prog w = .ok (.enter gf args) w)
    (N : Nat) (W : World) (hq : Sq W) (la : Option Addr) (lc : Nat) (K : Nat → Prop) (hL : NumsAt W K la xs) (hKT : ∀ b, K b → ¬ T b ∧ b < W.heap.size) (kd ag : Int) (ma : Option Addr) (mn mc : Nat) (nl : Bool) (h0 : kd ≠ 0) (h1 : kd ≠ 1) (h2 : kd ≠ 2) (h3 : kd ≠ 3) (h4 : kd ≠ 4) :
    Calls Try.prog 14 #[.func (.func gf) #[] lb, .slice la xs.length lc, .agg (LinkC kd ag ma mn mc nl)] W (LinkP N W R T K xs) := by
  have b0 : (kd == 0) = false := beq_eq_false_iff_ne.2 h0
  have b1 : (kd == 1) = false := beq_eq_false_iff_ne.2 h1
  have b2 : (kd == 2) = false := beq_eq_false_iff_ne.2 h2
  have b3 : (kd == 3) = false := beq_eq_false_iff_ne.2 h3
  have b4 : (kd == 4) = false := beq_eq_false_iff_ne.2 h4
  have HG : Hid (LinkP N W R T K xs (.returned (.tuple #[.func (.func gf) #[] lb, .slice la xs.length lc])) (W.alloc (.cells (LinkC kd ag ma mn mc nl) 56))) := by
    have tW : Tn (fun _ => False) W (W.alloc (.cells (LinkC kd ag ma mn mc nl) 56)) := (Tn.refl _ _).alloc _
    exact ⟨gf, lb, R, T, Sq, la, lc, K, rfl, eg, hs, hs.stab _ _ _ hq tW (fun _ _ h => h), hL.tn tW (fun _ _ h => h), fun b hb => ⟨(hKT b hb).1, Nat.lt_of_lt_of_le (hKT b hb).2 tW.size, .inl hb⟩, fun b hb => .inl hb, tW, fun b hb => .inl hb⟩
  unfold LinkC at HG
  unfold LinkC
  clear h0 h1 h2 h3 h4 hs hq hL hKT
  go_enter Try.func14, Try.ntmps14
  go_wp2
  go_ret2
  exact HG.out

theorem then_end {K0 : Nat → Prop} {gf N : Nat} {lb : Array Value} {xs ms : List Int} {R T Km : Nat → Prop} {Sq : World → Prop} {W W2 W3 w2 w4 Y : World} {ag : Int} {ma va2 : Option Addr} {mn mc vc2 ob g c : Nat} {cs : Array Value} (hs : IsSeq Try.prog gf lb encI xs R T Sq ∧ Sq W) (eg : ∀ args w, (callFunc gf args).run Try.prog w = .ok (.enter gf args) w)
    (hz : IsC W3 (W.heap.size + 1) #[.int .i64 0] ∧ IsC W3 (W.heap.size + 1 + 1) #[.slice ma mn mc] ∧ IsC W3 (W.heap.size + 1 + 1 + 1) #[.pointer (some ⟨W.heap.size + 1, 0, none⟩)] ∧ Tn (fun _ => False) W W3 ∧ IsC W3 W.heap.size (LinkC 4 ag ma mn mc false)) (hs2 : W2.heap.size = W.heap.size + 1 + 1)
    (hm : NumsAt W Km ma ms ∧ ∀ b, Km b → ¬ T b ∧ b < W.heap.size) (hmN : ∀ b, Km b → b < N) (hmn : mn = ms.length) (hml : ms.length ≤ 1048576) (ho : w2.ownsRow W3.heap.size 3 1 (.slice va2 (xs.length + mn) vc2) (xs.length + mn) (ivs xs ++ ivs ms) ∧ Below W3.heap.size W3.drew w2) (h4 : Tn (fun _ => False) w2 w4 ∧ w2.heap.size < w4.heap.size)
    (hp : w4.heap.size ≤ ob ∧ w4.heap.size ≤ g ∧ cs[0]? = some (.func (.func gf) #[] lb) ∧ cs[1]? = some (.func (.func 41) #[] #[.pointer (some ⟨W2.heap.size, 0, none⟩), .pointer (some ⟨W2.heap.size + 1, 0, none⟩)]) ∧ IsC Y ob #[.slice (some ⟨g, 0, none⟩) 2 c] ∧ IsC Y g cs ∧ Tn (fun _ => False) w4 Y) :
    LinkP N W R T K0 (xs ++ ms) (.returned (.tuple #[.func (.func 94) #[] #[.pointer (some ⟨ob, 0, none⟩)], .slice va2 (xs.length + mn) vc2])) Y := by
  obtain ⟨z0, z1, z2, z3, -⟩ := hz
  obtain ⟨p1, p2, p3, p4, p5, p6, p7⟩ := hp
  subst hmn
  rw [hs2] at p4
  have hRl : ∀ b, R b → b < W.heap.size := hs.1.lt W hs.2
  have hz2 := z2.lt
  have hb2 : Below W3.heap.size W3 w2 := ⟨ho.2.os, ho.2.tape, ho.2.output, ho.2.size, ho.2.block⟩
  have hsz := hb2.size
  have tY : Tn (fun _ => False) w2 Y := h4.1.trans p7 (fun _ _ h => h)
  have t3Y : Tn (fun _ => False) W3 Y := (Tn.of_below hb2 (Nat.le_refl _)).trans tY (fun _ _ h => h)
  have tW : Tn (fun _ => False) W Y := z3.trans t3Y (fun _ _ h => h)
  have ef : ∀ args w, (callFunc 94 args).run Try.prog w = .ok (.enter 94 args) w := fun _ _ => by kernel_rfl
  have e41 : ∀ args w, (callFunc 41 args).run Try.prog w = .ok (.enter 41 args) w := fun _ _ => by kernel_rfl
  have hc := counted_seq (xs := ms) (a := ma) (cap := mc) (lb := W.heap.size + 1 + 1) (nb := W.heap.size + 1 + 1 + 1) (cb := W.heap.size + 1) (K := Km) (by omega) (fun h => by have := (hm.2 _ h).2; omega) (by omega) (by omega)
  have hR2 : ∀ b, (b = W.heap.size + 1 + 1 ∨ b = W.heap.size + 1 + 1 + 1 ∨ b = W.heap.size + 1 ∨ ∃ g o, ma = some ⟨g, o, none⟩ ∧ Km g ∧ ms ≠ [] ∧ b = g) → b < W3.heap.size ∧ ¬ T b := by
    rintro b (rfl | rfl | rfl | ⟨g, o, -, hk, -, rfl⟩)
    · exact ⟨by omega, fun h => by have := hRl _ (hs.1.sub _ h); omega⟩
    · exact ⟨by omega, fun h => by have := hRl _ (hs.1.sub _ h); omega⟩
    · exact ⟨by omega, fun h => by have := hRl _ (hs.1.sub _ h); omega⟩
    · exact ⟨by have := (hm.2 _ hk).2; omega, (hm.2 _ hk).1⟩
  have hse := then_seq (ob := ob) (g := g) (c := c) (cs := cs) (hs.1.tell eg) (hc.tell e41) p3 p4 ⟨fun h => by have := hRl _ h; omega, fun h => by have := hRl _ h; omega⟩ ⟨fun h => by have := (hR2 _ h).1; omega, fun h => by have := (hR2 _ h).1; omega⟩ (fun b hb => (hR2 b hb).2) (fun b hb (h : b = W.heap.size + 1) => by have := hRl b hb; omega)
  have hO : LkS W3 (xs ++ ms) va2 vc2 w2 := by
    refine ⟨?_, hb2⟩
    have e : ivs (xs ++ ms) = ivs xs ++ ivs ms := by simp [ivs]
    rw [e, List.length_append]
    exact ho.1
  have := link_end (N := N) (R := R) (T := T) (K0 := K0) z3 hO tY ef hse ⟨hs.1.stab _ _ _ hs.2 tW (fun _ _ h => h), ⟨z1.tn t3Y id, z2.tn t3Y id, ⟨0, z0.tn t3Y id⟩, hm.1.tn tW (fun _ _ h => h)⟩, p5, p6⟩ (fun b hb => ?_) (fun b hb => ?_)
  · rw [List.length_append] at this
    exact this
  · rcases hb with hb | (hb : b = W.heap.size + 1)
    · exact ⟨.inl hb, .inl (Nat.lt_of_lt_of_le (hRl b (hs.1.sub b hb)) z3.size)⟩
    · exact ⟨.inr (by omega), .inl (by omega)⟩
  · rcases hb with hb | (rfl | rfl | rfl | ⟨g, o, -, hk, -, rfl⟩) | rfl | rfl
    · exact .inl hb
    · exact .inr (.inl (by omega))
    · exact .inr (.inl (by omega))
    · exact .inr (.inl (by omega))
    · exact .inr (.inr (hmN _ hk))
    · exact .inr (.inl (by omega))
    · exact .inr (.inl (by omega))

set_option maxRecDepth 100000 in
set_option maxHeartbeats 4000000 in
theorem linked_then {gf : Nat} {lb : Array Value} {xs : List Int} {R T : Nat → Prop} {Sq : World → Prop} (hs : IsSeq Try.prog gf lb encI xs R T Sq) (eg : ∀ args w, (callFunc gf args).run Try.prog w = .ok (.enter gf args) w)
    (N : Nat) (W : World) (hq : Sq W) (la : Option Addr) (lc : Nat) (K : Nat → Prop) (hL : NumsAt W K la xs) (hKT : ∀ b, K b → ¬ T b ∧ b < W.heap.size) (hl : xs.length ≤ 1048576) (ag : Int) (ma : Option Addr) (mn mc : Nat) (ms : List Int) (hmn : mn = ms.length) (Km : Nat → Prop) (hM : NumsAt W Km ma ms) (hMT : ∀ b, Km b → ¬ T b ∧ b < W.heap.size) (hMN : ∀ b, Km b → b < N) (hml : ms.length ≤ 1048576) :
    Calls Try.prog 14 #[.func (.func gf) #[] lb, .slice la xs.length lc, .agg (LinkC 4 ag ma mn mc false)] W (LinkP N W R T K (xs ++ ms)) := by
  obtain ⟨W1, hW1⟩ : ∃ W1, W.alloc (.cells (LinkC 4 ag ma mn mc false) 56) = W1 := ⟨_, rfl⟩
  have HW1 : Hid (W.alloc (.cells (LinkC 4 ag ma mn mc false) 56) = W1) := hW1
  have hk : IsC W1 W.heap.size (LinkC 4 ag ma mn mc false) := by rw [← hW1]; exact isC_new _ _ _
  have t1 : Tn (fun _ => False) W W1 := by rw [← hW1]; exact (Tn.refl _ _).alloc _
  have HKb : Hid (IsC W1 W.heap.size (LinkC 4 ag ma mn mc false) ∧ Tn (fun _ => False) W W1) := ⟨hk, t1⟩
  have k0 : W1.cell? ⟨W.heap.size, 0, none⟩ = some (.int .i64 4) := hk.cell 0
  have k1 : W1.cell? ⟨W.heap.size, 1, none⟩ = some (.int .i64 ag) := hk.cell 1
  have k2 : W1.cell? ⟨W.heap.size, 2, none⟩ = some (.slice ma mn mc) := hk.cell 2
  have k3 : W1.cell? ⟨W.heap.size, 3, none⟩ = some (.bool false) := hk.cell 3
  have hkl := hk.lt
  have HL : Hid (NumsAt W K la xs ∧ ∀ b, K b → ¬ T b ∧ b < W.heap.size) := ⟨hL, hKT⟩
  have HS : Hid (IsSeq Try.prog gf lb encI xs R T Sq ∧ Sq W) := ⟨hs, hq⟩
  have HBW : Hid (W1.heap.size = W.heap.size + 1) := by show _ = _; rw [← hW1]; simp
  clear hW1 hk t1 hL hKT hs hq
  unfold LinkC at HW1
  unfold LinkC
  go_enter Try.func14, Try.ntmps14
  have HM : Hid (NumsAt W Km ma ms ∧ ∀ b, Km b → ¬ T b ∧ b < W.heap.size) := ⟨hM, hMT⟩
  have HMN2 : Hid (∀ b, Km b → b < N) := hMN
  obtain ⟨W2, hW2⟩ : ∃ W2, W1.alloc (.cells #[.int .i64 0] 3) = W2 := ⟨_, rfl⟩
  obtain ⟨W3, hW3⟩ : ∃ W3, (W2.alloc (.cells #[.slice ma mn mc] 47)).alloc (.cells #[.pointer (some ⟨W.heap.size + 1, 0, none⟩)] 52) = W3 := ⟨_, rfl⟩
  have HW2 : Hid (W1.alloc (.cells #[.int .i64 0] 3) = W2) := hW2
  have HW3 : Hid ((W2.alloc (.cells #[.slice ma mn mc] 47)).alloc (.cells #[.pointer (some ⟨W.heap.size + 1, 0, none⟩)] 52) = W3) := hW3
  have hmk := mk_counted W2 ma mn mc (some ⟨W.heap.size + 1, 0, none⟩)
  have hs2 : W2.heap.size = W.heap.size + 1 + 1 := by rw [← hW2]; have := HBW.out; simp; omega
  have t2 : Tn (fun _ => False) W1 W2 := by rw [← hW2]; exact (Tn.refl _ _).alloc _
  have t3 : Tn (fun _ => False) W2 W3 := by rw [← hW3]; exact ((Tn.refl _ _).alloc _).alloc _
  have z0 : IsC W3 (W.heap.size + 1) #[.int .i64 0] := by
    have h : IsC W2 W1.heap.size #[.int .i64 0] := by rw [← hW2]; exact isC_new _ _ _
    rw [HBW.out] at h
    exact h.tn t3 id
  have z1 : IsC W3 (W.heap.size + 1 + 1) #[.slice ma mn mc] := by
    rw [← hW3, ← hs2]
    exact (isC_new W2 _ _).tn ((Tn.refl (fun _ => False) _).alloc _) id
  have z2 : IsC W3 (W.heap.size + 1 + 1 + 1) #[.pointer (some ⟨W.heap.size + 1, 0, none⟩)] := by
    have h := isC_new (W2.alloc (.cells #[.slice ma mn mc] 47)) #[.pointer (some ⟨W.heap.size + 1, 0, none⟩)] 52
    rw [hW3] at h
    simpa [hs2] using h
  have HZ : Hid (IsC W3 (W.heap.size + 1) #[.int .i64 0] ∧ IsC W3 (W.heap.size + 1 + 1) #[.slice ma mn mc] ∧ IsC W3 (W.heap.size + 1 + 1 + 1) #[.pointer (some ⟨W.heap.size + 1, 0, none⟩)] ∧ Tn (fun _ => False) W W3 ∧ IsC W3 W.heap.size (LinkC 4 ag ma mn mc false)) := ⟨z0, z1, z2, (HKb.out.2.trans t2 (fun _ _ h => h)).trans t3 (fun _ _ h => h), (HKb.out.1.tn t2 id).tn t3 id⟩
  have HS2 : Hid (W2.heap.size = W.heap.size + 1 + 1) := hs2
  have hk2 : W3.drew.cell? ⟨W.heap.size, 2, none⟩ = some (.slice ma mn mc) := HZ.out.2.2.2.2.cell 2
  have hz3 := z2.lt
  have hkb3 : W.heap.size < W3.heap.size := by omega
  have HMN : Hid (mn = ms.length) := hmn
  have hmnl : mn ≤ 1048576 := by omega
  -- the first append's list, the second's
  have HN1 : Hid (∀ j u, (ivs xs)[j]? = some u → ∃ ad, la = some ad ∧ W3.drew.cell? (ad.add j) = some u) := by
    intro j u hu
    simp only [ivs, List.getElem?_map, Option.map_eq_some_iff] at hu
    obtain ⟨x, hx, rfl⟩ := hu
    obtain ⟨g, o, rfl, hK, hg, hc⟩ := HL.out.1 j x hx
    exact ⟨_, rfl, by
      have e : (⟨g, o, none⟩ : Addr).add j = ⟨g, o + j, none⟩ := by unfold Addr.add; split <;> simp_all
      rw [e]
      exact (HZ.out.2.2.2.1.cell hg id).trans hc⟩
  have HN2 : Hid (∀ w', Tn (fun _ => False) W3.drew w' → ∀ j u, (ivs ms)[j]? = some u → ∃ ad, ma = some ad ∧ w'.cell? (ad.add j) = some u) := by
    intro w' tw j u hu
    simp only [ivs, List.getElem?_map, Option.map_eq_some_iff] at hu
    obtain ⟨x, hx, rfl⟩ := hu
    obtain ⟨g, o, rfl, hK, hg, hc⟩ := HM.out.1 j x hx
    exact ⟨_, rfl, by
      have e : (⟨g, o, none⟩ : Addr).add j = ⟨g, o + j, none⟩ := by unfold Addr.add; split <;> simp_all
      rw [e, tw.cell (Nat.lt_of_lt_of_le hg HZ.out.2.2.2.1.size) id]
      exact (HZ.out.2.2.2.1.cell hg id).trans hc⟩
  have hLen1 : (ivs xs).length = xs.length * 1 := by simp [ivs]
  have hLen2 : (ivs ms).length = mn * 1 := by simp [ivs, hmn]
  have HO0 : Hid (W3.drew.ownsRow W3.heap.size 3 1 (.slice none 0 0) 0 []) := ⟨rfl, .inl ⟨rfl, rfl⟩⟩
  clear hW2 hW3 z0 z1 z2 t2 t3 hs2 k0 k1 k2 hmn hM hMT hMN
  go_wp2_with fail
  rw [HW1.out, HW2.out]
  with_reducible refine hmk.mono ?_
  rintro e w' ⟨rfl, rfl⟩
  rw [HW3.out]
  have tok1 : True := trivial
  have tok2 : True := trivial
  have hs3 : W3.drew.heap.size = W3.heap.size := rfl
  go_wp2_with fail
  go_region_law (first
    | (have _t := tok1; refine Bs.step_app (by rfl) _ _ (by rfl) Try.underlying47 infoB rfl (by decide) W3.heap.size (.slice none 0 0) 0 [] (by rfl) HO0.out la xs.length lc (ivs xs) (by rfl) hLen1 HN1.out (by intro u hu; simp [ivs] at hu; obtain ⟨x, -, rfl⟩ := hu; rfl) (by unfold maxLen; omega) (by omega) (Nat.le_refl _) ?_; intro v1 w1 hown1 hg1 _ hat1; obtain ⟨va, vc, hvv⟩ := own_slice hown1; subst hvv; rw [Nat.zero_add, List.nil_append] at hown1; rw [Nat.zero_add]; have HO1 : Hid (w1.ownsRow W3.heap.size 3 1 (.slice va xs.length vc) xs.length (ivs xs)) := hown1; have HT1 : Hid (Tn (fun _ => False) W3.drew w1) := ⟨hg1.os, hg1.tape, hg1.output, hg1.size, fun k hk _ => hg1.block k hk (fun e => by cases e)⟩; have hkw1 : w1.cell? ⟨W.heap.size, 2, none⟩ = some (.slice ma mn mc) := (HT1.out.cell hkb3 id).trans hk2; have hz1 : W3.heap.size ≤ w1.heap.size := HT1.out.size; clear hown1 hg1 hat1 tok1 _t)
    | (have _t := tok2; refine Bs.step_app (by rfl) _ _ (by rfl) Try.underlying47 infoB rfl (by decide) W3.heap.size (.slice va xs.length vc) xs.length (ivs xs) (by rfl) HO1.out ma mn mc (ivs ms) (by rfl) hLen2 (HN2.out w1 HT1.out) (by intro u hu; simp [ivs] at hu; obtain ⟨x, -, rfl⟩ := hu; rfl) (by unfold maxLen; omega) (by omega) hz1 ?_; intro v2 w2 hown2 hg2 _ hat2; obtain ⟨va2, vc2, hvv2⟩ := own_slice hown2; subst hvv2; have HO2 : Hid (w2.ownsRow W3.heap.size 3 1 (.slice va2 (xs.length + mn) vc2) (xs.length + mn) (ivs xs ++ ivs ms) ∧ Below W3.heap.size W3.drew w2) := ⟨hown2, ((HT1.out.below (Nat.le_refl _) (fun _ h => h.elim)).grown hg2 hz1 (fun k hk => (own_block_lt HO1.out k hk).1) : Below W3.heap.size W3.drew w2)⟩; clear hown2 hg2 hat2 tok2 _t))
  all_goals (
    obtain ⟨w4, hw4⟩ : ∃ w4, w2.alloc (.cells #[.func (.func gf) #[] lb, .func (.func 41) #[] #[.pointer (some ⟨W2.heap.size, 0, none⟩), .pointer (some ⟨W2.heap.size + 1, 0, none⟩)]] 50) = w4 := ⟨_, rfl⟩
    have HW4 : Hid (w2.alloc (.cells #[.func (.func gf) #[] lb, .func (.func 41) #[] #[.pointer (some ⟨W2.heap.size, 0, none⟩), .pointer (some ⟨W2.heap.size + 1, 0, none⟩)]] 50) = w4) := hw4
    have y4 : IsC w4 w2.heap.size #[.func (.func gf) #[] lb, .func (.func 41) #[] #[.pointer (some ⟨W2.heap.size, 0, none⟩), .pointer (some ⟨W2.heap.size + 1, 0, none⟩)]] := by rw [← hw4]; exact isC_new _ _ _
    have T4 : Hid (Tn (fun _ => False) w2 w4 ∧ w2.heap.size < w4.heap.size) := ⟨by rw [← hw4]; exact (Tn.refl _ _).alloc _, y4.lt⟩
    have hth := callsIn_wide.1 (mk_then w4 (.func (.func gf) #[] lb) (.func (.func 41) #[] #[.pointer (some ⟨W2.heap.size, 0, none⟩), .pointer (some ⟨W2.heap.size + 1, 0, none⟩)]) w2.heap.size 2 (y4.cell 0) (y4.cell 1) rfl rfl)
    clear hw4 y4 hkw1
    go_wp2_with fail
    rw [HW4.out]
    with_reducible refine hth.mono ?_
    rintro e Y ⟨ob, g, c, cs, rfl, p1, p2, p3, p4, p5, p6, p7⟩
    have HP : Hid (w4.heap.size ≤ ob ∧ w4.heap.size ≤ g ∧ cs[0]? = some (.func (.func gf) #[] lb) ∧ cs[1]? = some (.func (.func 41) #[] #[.pointer (some ⟨W2.heap.size, 0, none⟩), .pointer (some ⟨W2.heap.size + 1, 0, none⟩)]) ∧ IsC Y ob #[.slice (some ⟨g, 0, none⟩) 2 c] ∧ IsC Y g cs ∧ Tn (fun _ => False) w4 Y) := ⟨p1, p2, p3, p4, p5, p6, p7⟩
    clear p1 p2 p3 p4 p5 p6 p7 hth
    go_wp2
    go_ret2
    exact then_end HS.out eg HZ.out HS2.out HM.out HMN2.out HMN.out hml HO2.out T4.out HP.out)

end Go.Proofs.Ytjkgjckkglfokaa
