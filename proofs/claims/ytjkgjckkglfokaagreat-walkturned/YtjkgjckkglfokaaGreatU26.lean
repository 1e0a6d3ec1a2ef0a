/- What lies ahead of a node: isNode, above, within, preceding. -/
import Derived.Test.YtjkgjckkglfokaaGreatU01
import Derived.Test.YtjkgjckkglfokaaGreatU25
import Derived.Test.YtjkgjckkglfokaaGreatU04
import Derived.Test.YtjkgjckkglfokaaGreatU07
import Derived.Test.YtjkgjckkglfokaaGreatU06
import Derived.Test.YtjkgjckkglfokaaGreatU12
namespace Go.Proofs.YtjkgjckkglfokaaGreat
open Go.RowKit Go.Shelf
open Gr (Dc Sl View WF sl par hvals allR idxH)
set_option linter.unusedVariables false
set_option linter.unusedSimpArgs false
set_option maxRecDepth 100000
set_option maxHeartbeats 2000000
attribute [local go_sem] Oper.semAt_some
theorem parent_live (w : World) (R : Nat -> Prop) (db : Nat) (D : Dc) (h : Nat) (s : Sl) (hv : View w R db D) (hw : WF D) (hs : sl D h = some s) :
  Calls Tryz.prog 60 #[.pointer (some ⟨db, 0, none⟩), .int .u64 (h : Int)] w fun e w' => e = .returned (.tuple #[.int .u64 (par D h : Int), .int .i64 0]) /\ Below w.heap.size w w' := by
 obtain ⟨i, ha, hsi, -⟩ := Gr.sl_live hs
 have := Gr.pparent_some w R db D h i s hv hw.fits (hw.lt hs).1 ha hsi
 rw [show par D h = s.parent by unfold par; rw [hs]]
 exact this
theorem isnode_live (w : World) (R : Nat -> Prop) (db : Nat) (D : Dc) (h : Nat) (s : Sl) (hv : View w R db D) (hw : WF D) (hs : sl D h = some s) :
  Calls Tryz.prog 24 #[.pointer (some ⟨db, 0, none⟩), .int .u64 (h : Int)] w fun e w' => e = .returned (.bool true) /\ Below w.heap.size w w' := by
 have hp := parent_live w R db D h s hv hw hs
 clear hv hw hs
 go_enter Tryz.func24, Tryz.ntmps24
 go_wp2_with fail
 refine hp.mono ?_
 rintro e w1 ⟨rfl, hb⟩
 have HB := hid hb
 clear hb hp
 go_wp2
 go_ret
 exact ⟨rfl, HB.out⟩
theorem above_live (w : World) (R : Nat -> Prop) (db : Nat) (D : Dc) (h : Nat) (s : Sl) (hv : View w R db D) (hw : WF D) (hs : sl D h = some s) :
  Calls Tryz.prog 102 #[.pointer (some ⟨db, 0, none⟩), .int .u64 (h : Int)] w fun e w' => e = .returned (.int .u64 (par D h : Int)) /\ Below w.heap.size w w' := by
 have hp := parent_live w R db D h s hv hw hs
 clear hv hw hs
 go_enter Tryz.func102, Tryz.ntmps102
 go_wp2_with fail
 refine hp.mono ?_
 rintro e w1 ⟨rfl, hb⟩
 have HB := hid hb
 clear hb hp
 go_wp2
 go_ret
 exact ⟨rfl, HB.out⟩
theorem within_zero (w : World) (R : Nat -> Prop) (db : Nat) (D : Dc) (hv : View w R db D) (hw : WF D) :
  Calls Tryz.prog 63 #[.pointer (some ⟨db, 0, none⟩), .int .u64 0] w fun e w' => ∃ a cap, e = .returned (.slice a (allR D).length cap) /\ w'.ownsRow w.heap.size 27 1 (.slice a (allR D).length cap) (allR D).length (hvals (allR D)) /\ Below w.heap.size w w' := by
 have hp := Gr.pall_zero w R db D hv hw
 clear hv hw
 go_enter Tryz.func63, Tryz.ntmps63
 go_wp2_with fail
 refine hp.mono ?_
 rintro e w1 ⟨a, cap, rfl, ho, hb⟩
 have HB : Hid (Below w.heap.size w w1 /\ w1.ownsRow w.heap.size 27 1 (.slice a (allR D).length cap) (allR D).length (hvals (allR D))) := ⟨hb, ho⟩
 clear hb hp ho
 go_wp2
 go_ret
 exact ⟨a, cap, rfl, HB.out.2, HB.out.1⟩
theorem mk_backward (w : World) (a : Option Addr) (n cap : Nat) :
  Calls Tryz.prog 104 #[.slice a n cap] w fun e w' => e = .returned (.func (.func 125) #[] #[.pointer (some ⟨w.heap.size, 0, none⟩)]) /\ w' = w.alloc (.cells #[.slice a n cap] 23) := by
 have hmf : ∀ (fn : Fn) (first cap : Array Value) (w : World), (Instr.makeFunc fn first cap).run Tryz.prog w = .ok (.func fn first cap) w := fun _ _ _ _ => rfl
 go_enter Tryz.func104, Tryz.ntmps104
 go_wp2
 go_ret
 exact ⟨rfl, rfl⟩
theorem mk_values (w : World) (a : Option Addr) (n cap : Nat) :
  Calls Tryz.prog 26 #[.slice a n cap] w fun e w' => e = .returned (.func (.func 61) #[] #[.pointer (some ⟨w.heap.size, 0, none⟩)]) /\ w' = w.alloc (.cells #[.slice a n cap] 23) := by
 have hmf : ∀ (fn : Fn) (first cap : Array Value) (w : World), (Instr.makeFunc fn first cap).run Tryz.prog w = .ok (.func fn first cap) w := fun _ _ _ _ => rfl
 go_enter Tryz.func26, Tryz.ntmps26
 go_wp2
 go_ret
 exact ⟨rfl, rfl⟩
def prc (D : Dc) : List Nat -> Nat -> List Nat -> Nat × List Nat
 | [], a, l => (a, l)
 | x :: r, a, l => if x = a then prc D r (par D x) l else prc D r a (l ++ [x])
theorem prc_snoc (D : Dc) : ∀ (xs : List Nat) (x a : Nat) (l : List Nat), prc D (xs ++ [x]) a l = if x = (prc D xs a l).1 then (par D x, (prc D xs a l).2) else ((prc D xs a l).1, (prc D xs a l).2 ++ [x])
 | [], x, a, l => by
  show prc D [x] a l = _
  unfold prc
  by_cases h : x = a
  ·rw [if_pos h, if_pos h]; rfl
  ·rw [if_neg h, if_neg h]; rfl
 | y :: r, x, a, l => by
  rw [List.cons_append]
  unfold prc
  by_cases h : y = a
  ·rw [if_pos h, if_pos h, prc_snoc D r x]
  ·rw [if_neg h, if_neg h, prc_snoc D r x]
theorem prc_len (D : Dc) : ∀ (xs : List Nat) (a : Nat) (l : List Nat), (prc D xs a l).2.length <= l.length + xs.length
 | [], a, l => by unfold prc; simp
 | y :: r, a, l => by
  unfold prc
  by_cases h : y = a
  ·rw [if_pos h]; have := prc_len D r (par D y) l; simp; omega
  ·rw [if_neg h]; have := prc_len D r a (l ++ [y]); simp at this ⊢; omega
theorem Tn.gr {A : Nat -> Prop} {w w' : World} (h : Tn A w w') : Gr.Turn A w w' := ⟨h.os, h.tape, h.output, h.size, h.block⟩
def RowH (D : Dc) (R : Nat -> Prop) (db N dx ax lx a0 : Nat) : Inv (Nat × Nat) := fun s C X => ∃ a c k p, prc D (s.map (·.2)) a0 [] = (p, k) /\ C = (fun b => b = ax \/ b = lx \/ (Value.slice a k.length c).ownBlock = some b) /\ IsC X ax #[.int .u64 (p : Int)] /\ IsC X lx #[.slice a k.length c] /\ X.ownsRow N 27 1 (.slice a k.length c) k.length (hvals k) /\ N <= X.heap.size /\ View X R db D /\ IsC X dx #[.pointer (some ⟨db, 0, none⟩)]
theorem RowH.stb {D : Dc} {R : Nat -> Prop} {db N dx ax lx a0 : Nat} : Stb (fun b => R b \/ b = dx) (RowH D R db N dx ax lx a0) := by
 refine ⟨?_, ?_⟩
 ·rintro s C X ⟨a, c, k, p, -, rfl, q1, q2, q3, -, q5, q6⟩ b hb
  rcases hb with (rfl | rfl | hb) | hb | rfl
  ·exact q1.lt
  ·exact q2.lt
  ·exact (own_block_lt q3 b hb).2
  ·exact q5.lt b hb
  ·exact q6.lt
 ·rintro s C A X Y ⟨a, c, k, p, q0, rfl, q1, q2, q3, q4, q5, q6⟩ ht hA
  exact ⟨a, c, k, p, q0, rfl, q1.tn ht (hA _ (.inl (.inl rfl))), q2.tn ht (hA _ (.inl (.inr (.inl rfl)))), own_of_block q3 (fun k hk => ht.block k (own_block_lt q3 k hk).2 (hA k (.inl (.inr (.inr hk))))), Nat.le_trans q4 ht.size, q5.turn ht.gr (fun b hb => hA b (.inr (.inl hb))), q6.tn ht (hA _ (.inr (.inr rfl)))⟩
theorem no_stb2 {D : Nat -> Prop} : ∀ c : Code, Stb D (fun (_ : List (Nat × Nat)) (_ : Nat -> Prop) (_ : World) => False) := fun _ => ⟨fun _ _ _ h => h.elim, fun _ _ _ _ _ h => h.elim⟩
theorem bwd_mem {L : List Nat} {x : Nat × Nat} (h : x ∈ bwd L) : x.2 ∈ L := by
 simp only [bwd, List.mem_map, List.mem_range] at h
 obtain ⟨k, hk, rfl⟩ := h
 simp only
 have : L.length - 1 - k < L.length := by omega
 rw [List.getD, List.getElem?_eq_getElem this]
 exact List.getElem_mem _
theorem row_hands {w : World} {N n cap : Nat} {a : Option Addr} {L : List Nat} (h : w.ownsRow N 27 1 (.slice a n cap) n (hvals L)) (hn : L.length = n) (h0 : 0 < n) : ∃ g, a = some ⟨g, 0, none⟩ /\ N <= g /\ g < w.heap.size /\ n <= cap /\ HdsAt w g a L /\ Gr.HandsAt w (fun b => b = g) a L := by
 obtain ⟨h1, h2, h3⟩ := Gr.row_cell h
 have hc : ∀ (i x : Nat), L[i]? = some x -> ∃ g, a = some ⟨g, 0, none⟩ /\ N <= g /\ g < w.heap.size /\ w.cell? ⟨g, i, none⟩ = some (.int .u64 (x : Int)) := fun i x hx => h3 i _ (by simp [hvals, hx])
 obtain ⟨g, rfl, hg1, hg2, -⟩ := hc 0 L[0] (List.getElem?_eq_getElem (by omega))
 refine ⟨g, rfl, hg1, hg2, h1, fun i x hx => ?_, fun i x hx => ?_⟩
 ·obtain ⟨g', e, -, -, hcc⟩ := hc i x hx
  cases e
  exact ⟨0, rfl, hg2, by rw [Nat.zero_add]; exact hcc⟩
 ·obtain ⟨g', e, -, -, hcc⟩ := hc i x hx
  cases e
  exact ⟨g, 0, rfl, rfl, by rw [Nat.zero_add]; exact hcc⟩
theorem HdsAt.take {w : World} {g : Nat} {a : Option Addr} {L : List Nat} (h : HdsAt w g a L) (m : Nat) : HdsAt w g a (L.take m) := fun i x hx => h i x (by
 rw [List.getElem?_take] at hx
 split at hx
 ·exact hx
 ·cases hx)
theorem preceding_any (w : World) (R : Nat -> Prop) (db : Nat) (D : Dc) (h m : Nat) (s : Sl) (hv : View w R db D) (hw : WF D) (hs : sl D h = some s) (hm : idxH (allR D) h = (m : Int)) (hml : m < (allR D).length) (B : List Nat) (hB : B = ((bwd ((allR D).take m)).map (·.2))) :
  Calls Tryz.prog 66 #[.pointer (some ⟨db, 0, none⟩), .int .u64 (h : Int)] w fun e w' => ∃ a c, e = .returned (.slice a (prc D B (par D h) []).2.length c) /\ w'.ownsRow w.heap.size 27 1 (.slice a (prc D B (par D h) []).2.length c) (prc D B (par D h) []).2.length (hvals (prc D B (par D h) []).2) /\ Below w.heap.size w w' := by
 obtain ⟨W0, hW0⟩ : ∃ W0, w.alloc (.cells #[.pointer (some ⟨db, 0, none⟩)] 34) = W0 := ⟨_, rfl⟩
 have HW0 := hid hW0
 have y0 : IsC W0 w.heap.size #[.pointer (some ⟨db, 0, none⟩)] := by rw [<- hW0]; exact isC_new _ _ _
 have t0 : Tn (fun _ => False) w W0 := by rw [<- hW0]; exact (Tn.refl _ _).alloc _
 have hv0 : View W0 R db D := hv.turn t0.gr (fun _ _ h => h)
 have hwi := within_zero W0 R db D hv0 hw
 have hlen := (Gr.roots_len hw).2
 obtain ⟨n, hn⟩ : ∃ n, (allR D).length = n := ⟨_, rfl⟩
 rw [hn] at hwi hml hlen
 have HN := hid hn
 have HV : Hid (View W0 R db D /\ WF D /\ sl D h = some s /\ IsC W0 w.heap.size #[.pointer (some ⟨db, 0, none⟩)]) := ⟨hv0, hw, hs, y0⟩
 have HI := hid hm
 have HT0 := hid t0
 have c0 : W0.cell? ⟨w.heap.size, 0, none⟩ = some (.pointer (some ⟨db, 0, none⟩)) := y0.cell 0
 have l0 := y0.lt
 clear hW0 y0 t0 hv0 hv hw hs hm hn
 refine (callsIn_wide (n := 0)).1 ?_
 refine callsIn_of_wp_marks Tryz.func66 rfl trivial ?_ rfl
 simp only [Tryz.ntmps66, List.size_toArray, List.length_cons, List.length_nil, Nat.reduceAdd, Nat.reduceSub, Array.replicate_succ, Array.replicate_zero, List.push_toArray, List.append_toArray, List.nil_append, List.cons_append]
 gi_wp2_with fail
 rw [HW0.out]
 refine ⟨trivial, rfl, (callsIn_wide.2 hwi).mono ?_⟩
 rintro e w1 ⟨a, cap, rfl, ho1, hb1⟩
 have t1 : Tn (fun _ => False) W0 w1 := Tn.of_below hb1 (Nat.le_refl _)
 have HO1 : Hid (w1.ownsRow W0.heap.size 27 1 (.slice a n cap) n (hvals (allR D)) /\ Tn (fun _ => False) W0 w1) := ⟨ho1, t1⟩
 have c1 : w1.cell? ⟨w.heap.size, 0, none⟩ = some (.pointer (some ⟨db, 0, none⟩)) := (HV.out.2.2.2.tn t1 id).cell 0
 have l1 : w.heap.size < w1.heap.size := Nat.lt_of_lt_of_le l0 t1.size
 have hab := above_live w1 R db D h s (HV.out.1.turn t1.gr (fun _ _ h => h)) HV.out.2.1 HV.out.2.2.1
 clear ho1 hb1 t1 hwi c0 l0
 gi_wp2_with fail
 refine ⟨trivial, rfl, (callsIn_wide.2 hab).mono ?_⟩
 rintro e w2 ⟨rfl, hb2⟩
 have t2 : Tn (fun _ => False) w1 w2 := Tn.of_below hb2 (Nat.le_refl _)
 obtain ⟨g, rfl, hg1, hg2, hcap, hd1, hh1⟩ := row_hands HO1.out.1 HN.out (by omega)
 obtain ⟨W3, hW3⟩ : ∃ W3, (w2.alloc (.cells #[.int .u64 (par D h : Int)] 27)).alloc (.cells #[.slice none 0 0] 23) = W3 := ⟨_, rfl⟩
 have HW3 := hid hW3
 have n3 := fun (w : World) (o : Obj) => (Tn.refl (fun _ => False) w).alloc o
 have t3 : Tn (fun _ => False) w2 W3 := by rw [<- hW3]; exact (n3 _ _).alloc _
 have z1 : IsC W3 w2.heap.size #[.int .u64 (par D h : Int)] := by rw [<- hW3]; exact (isC_new _ _ _).tn (n3 _ _) id
 have z2 : IsC W3 (w2.heap.size + 1) #[.slice none 0 0] := by
  have := isC_new (w2.alloc (.cells #[.int .u64 (par D h : Int)] 27)) #[.slice none 0 0] 23
  rw [hW3] at this
  simpa using this
 have t13 : Tn (fun _ => False) w1 W3 := t2.trans t3 (fun _ _ h => h)
 have hix := Gr.index_any W3 (fun b => b = g) (some ⟨g, 0, none⟩) (allR D) cap h (hh1.to (fun _ h => h) (fun b o hb => by subst hb; exact World.cell?_of_block (w := w1) (a := ⟨b, o, none⟩) (t13.block b hg2 id))) (by have := HN.out; omega) (m : Int) HI.out
 rw [HN.out] at hix
 have hmb := mk_backward W3 (some ⟨g, 0, none⟩) m cap
 have HZ : Hid (IsC W3 w2.heap.size #[.int .u64 (par D h : Int)] /\ IsC W3 (w2.heap.size + 1) #[.slice none 0 0] /\ Tn (fun _ => False) w1 W3 /\ HdsAt w1 g (some ⟨g, 0, none⟩) ((allR D).take m) /\ g < w1.heap.size) := ⟨z1, z2, t13, hd1.take m, hg2⟩
 have HMC : Hid (m <= n /\ n <= cap) := ⟨by omega, hcap⟩
 have hm0 : (0 : Int) <= (m : Int) := by omega
 have hmc : (m : Int) <= (cap : Int) := by omega
 have hmt : ((m : Int)).toNat = m := by omega
 have hb2s : w1.heap.size <= w2.heap.size := t2.size
 clear hW3 t2 t3 z1 z2 t13 hd1 hh1 hb2 hab n3 c1 l1
 gi_wp2_with fail
 rw [HW3.out]
 refine ⟨trivial, rfl, (callsIn_wide.2 hix).mono ?_⟩
 rintro e w' ⟨rfl, rfl⟩
 gi_wp2_with fail
 refine ⟨trivial, rfl, (callsIn_wide.2 hmb).mono ?_⟩
 rintro e w4 ⟨rfl, hw4⟩
 gi_wp2_with fail
 rename_i Kf hKf
 have HK : Hid _ := hKf
 clear hKf
 obtain ⟨W4, hW4⟩ : ∃ W4, w'.alloc (.cells #[.slice (some ⟨g, 0, none⟩) m cap] 23) = W4 := ⟨_, rfl⟩
 rw [hW4]
 have t4 : Tn (fun _ => False) w' W4 := by rw [<- hW4]; exact (Tn.refl _ _).alloc _
 have zB : IsC W4 w'.heap.size #[.slice (some ⟨g, 0, none⟩) m cap] := by rw [<- hW4]; exact isC_new _ _ _
 have t14 : Tn (fun _ => False) w1 W4 := HZ.out.2.2.1.trans t4 (fun _ _ h => h)
 have t04 : Tn (fun _ => False) W0 W4 := HO1.out.2.trans t14 (fun _ _ h => h)
 have hL : ((allR D).take m).length = m := by rw [List.length_take, HN.out]; have := HMC.out.1; omega
 have hb := backward_seq (L := (allR D).take m) (n := m) (a := some ⟨g, 0, none⟩) (cap := cap) (lb := w'.heap.size) (g := g) hL (by have := HMC.out.1; omega)
 have em := enters_of Tryz.func125 (by kernel_rfl) rfl
 have h2 : w2.heap.size + 1 < w'.heap.size := HZ.out.2.1.lt
 have hg2 : g < w2.heap.size := Nat.lt_of_lt_of_le HZ.out.2.2.2.2 (by have := HZ.out.1.lt; have := hb2s; omega)
 have h0 : RowH D R db W4.heap.size w.heap.size w2.heap.size (w2.heap.size + 1) (par D h) [] (fun b => b = w2.heap.size \/ b = w2.heap.size + 1 \/ (Value.slice none 0 0).ownBlock = some b) W4 := ⟨none, 0, [], par D h, rfl, rfl, HZ.out.1.tn t4 id, HZ.out.2.1.tn t4 id, ⟨by simp [hvals], .inl ⟨rfl, rfl⟩⟩, Nat.le_refl _, HV.out.1.turn t04.gr (fun _ _ h => h), HV.out.2.2.2.tn t04 id⟩
 have HW4 : Hid (Tn (fun _ => False) W0 W4 /\ IsC W4 w'.heap.size #[.slice (some ⟨g, 0, none⟩) m cap]) := ⟨t04, zB⟩
 have hmi : Tryz.prog.follows Departure.mixedOrders = true := by kernel_rfl
 refine range_it (gf := 125) rfl (fun args w => em args w) (encs := encB) (fun _ => rfl) hb ⟨zB, HZ.out.2.2.2.1.tn t14 (fun _ h => h)⟩ (RowH D R db W4.heap.size w.heap.size w2.heap.size (w2.heap.size + 1) (par D h)) (fun _ _ _ _ => False) (fun b => R b \/ b = w.heap.size) RowH.stb no_stb2 _ h0 (fun b hb hr => ?_) (fun b e h => h)
  (fun x a' => a' = { tmps := #[.pointer (some ⟨db, 0, none⟩), .int .u64 (h : Int), .pointer (some ⟨w.heap.size, 0, none⟩), undef, .slice none 0 0, .slice (some ⟨g, 0, none⟩) n cap, .pointer (some ⟨w2.heap.size, 0, none⟩), .pointer (some ⟨w2.heap.size + 1, 0, none⟩), undef, .int .u64 (x.2 : Int), .pointer (some ⟨db, 0, none⟩), .slice (some ⟨g, 0, none⟩) n cap, .pointer (some ⟨db, 0, none⟩), .int .u64 (h : Int), .int .u64 (par D h : Int), .slice (some ⟨g, 0, none⟩) n cap, .slice (some ⟨g, 0, none⟩) n cap, .int .u64 (h : Int), .int .i64 (m : Int), .slice (some ⟨g, 0, none⟩) m cap, .func (.func 125) #[] #[.pointer (some ⟨w'.heap.size, 0, none⟩)], .int .i64 (x.1 : Int), .int .u64 (x.2 : Int), undef, undef, undef, undef, undef, undef, undef, undef, undef, undef, undef], defers := [] })
  ?assign ?body ?done ?stop
 ·rcases hb with rfl | rfl | hb
  ·rcases hr with hr | hr <;> omega
  ·rcases hr with hr | hr <;> omega
  ·cases hb
 case assign =>
  intro l2 x X Kc hK
  unfold encB
  gi_wp2
  rfl
 case body =>
  rintro l3 pre x a' C X hpre ⟨a, c, k, p, q0, rfl, q1, q2, q3, q4, q5, q6⟩ rfl
  have hxm : x ∈ bwd ((allR D).take m) := hpre.subset (by simp)
  obtain ⟨sx, hsx⟩ := Gr.allR_live HV.out.2.1 x.2 (List.mem_of_mem_take (bwd_mem hxm))
  have hpl : pre.length < 4096 := by
   have := hpre.length_le
   rw [bwd_length, hL] at this
   simp at this
   have := HMC.out.1
   omega
  have hkl : k.length <= pre.length := by
   have := prc_len D (pre.map (·.2)) (par D h) []
   rw [q0] at this
   simpa using this
  have hsn : prc D ((pre ++ [x]).map (·.2)) (par D h) [] = if x.2 = p then (par D x.2, k) else (p, k ++ [x.2]) := by
   rw [List.map_append, List.map_cons, List.map_nil, prc_snoc, q0]
  have c1 : X.cell? ⟨w2.heap.size, 0, none⟩ = some (.int .u64 (p : Int)) := q1.cell 0
  have c2 : X.cell? ⟨w2.heap.size + 1, 0, none⟩ = some (.slice a k.length c) := q2.cell 0
  have c3 : X.cell? ⟨w.heap.size, 0, none⟩ = some (.pointer (some ⟨db, 0, none⟩)) := q6.cell 0
  have f1 := q1.frozen 0
  have f2 := q2.frozen 0
  have l1 := q1.lt
  have l2 := q2.lt
  have hcall := above_live X R db D x.2 sx q5 HV.out.2.1 hsx
  obtain ⟨x1, x2⟩ := x
  simp only at hsn hcall hsx ⊢
  by_cases hxp : x2 = p
  ·rw [if_pos hxp] at hsn
   have hbe : ((x2 : Int) == (p : Int)) = true := by simp [hxp]
   have HQ : Hid (prc D ((pre ++ [(x1, x2)]).map (·.2)) (par D h) [] = (par D x2, k) /\ IsC X w2.heap.size #[.int .u64 (p : Int)] /\ IsC X (w2.heap.size + 1) #[.slice a k.length c] /\ X.ownsRow W4.heap.size 27 1 (.slice a k.length c) k.length (hvals k) /\ W4.heap.size <= X.heap.size /\ View X R db D /\ IsC X w.heap.size #[.pointer (some ⟨db, 0, none⟩)]) := ⟨hsn, q1, q2, q3, q4, q5, q6⟩
   have h4w : w2.heap.size < W4.heap.size /\ w.heap.size < W0.heap.size /\ W0.heap.size <= w2.heap.size := ⟨by have := h2; have := t4.size; omega, HV.out.2.2.2.lt, by have := HO1.out.2.size; omega⟩
   clear q0 q1 q2 q3 q4 q5 q6 hsn hxp hxm hsx hpre hb h0 t4 zB t14 t04 hL
   gi_wp2_with fail
   refine ⟨trivial, rfl, CallsIn.mono (F := Fence.wide) (callsIn_wide.2 hcall) ?_⟩
   rintro e X1 ⟨rfl, hb1⟩
   have tX : Tn (fun _ => False) X X1 := Tn.of_below hb1 (Nat.le_refl _)
   have k1 : X1.cell? ⟨w2.heap.size, 0, none⟩ = some (.int .u64 (p : Int)) := (HQ.out.2.1.tn tX id).cell 0
   have e1 : X1.frozen? ⟨w2.heap.size, 0, none⟩ = false := (HQ.out.2.1.tn tX id).frozen 0
   have m1 := (HQ.out.2.1.tn tX id).lt
   obtain ⟨X2, hX2⟩ : ∃ X2, X1.setCell ⟨w2.heap.size, 0, none⟩ (.int .u64 (par D x2 : Int)) = X2 := ⟨_, rfl⟩
   have tY : Tn (fun b => b = w2.heap.size) X1 X2 := by rw [<- hX2]; exact (Tn.refl (fun b => b = w2.heap.size) X1).set (p := ⟨w2.heap.size, 0, none⟩) (.inl rfl) _
   have HG : Hid (RPost (RowH D R db W4.heap.size w.heap.size w2.heap.size (w2.heap.size + 1) (par D h)) (fun _ _ _ _ => False) (pre ++ [(x1, x2)]) (fun b => b = w2.heap.size \/ b = w2.heap.size + 1 \/ (Value.slice a k.length c).ownBlock = some b) X .normal X2) := by
    obtain ⟨r0, r1, r2, r3, r4, r5, r6⟩ := HQ.out
    have tt : Tn (fun b => b = w2.heap.size) X X2 := (tX.mono (fun _ _ h => h.elim)).trans tY (fun _ _ h => h)
    have hRl : ∀ b, R b -> b < W0.heap.size := HV.out.1.lt
    refine ⟨_, tt.mono (fun _ _ h => .inl h), fun b hb => .inl hb, a, c, k, par D x2, r0, rfl, ?_, r2.tn tt (by omega), own_of_block r3 (fun j hj => tt.block j (own_block_lt r3 j hj).2 (fun e => by have := (own_block_lt r3 j hj).1; omega)), Nat.le_trans r4 tt.size, r5.turn tt.gr (fun b hb e => by have := hRl b hb; omega), r6.tn tt (by omega)⟩
    obtain ⟨t, ht⟩ := r1.tn tX id
    exact ⟨t, by rw [<- hX2]; simp [World.setCell, Array.getElem?_modify, ht]⟩
   have HX2 := hid hX2
   clear hX2 tY tX hb1 hcall c1 c2 c3 f1 f2 HQ
   gi_wp2
   rw [HX2.out]
   exact HG.out
  ·rw [if_neg hxp] at hsn
   have hbe : ((x2 : Int) == (p : Int)) = false := by simp; omega
   obtain ⟨i0, hi0, hz0, hz1, hz2⟩ := infoH.parts
   have h4w : w2.heap.size + 1 < W4.heap.size /\ w.heap.size < W0.heap.size /\ W0.heap.size <= w2.heap.size := ⟨by have := h2; have := t4.size; omega, HV.out.2.2.2.lt, by have := HO1.out.2.size; omega⟩
   have HQa : Hid ((X.alloc (.cells #[.int .u64 (x2 : Int)] 27)).ownsRow W4.heap.size 27 1 (.slice a k.length c) k.length (hvals k)) := own_of_block q3 (fun k hk => Below.heap_alloc _ _ _ (own_block_lt q3 k hk).2)
   have hfin : ∀ Y la' lc', Y.ownsRow W4.heap.size 27 1 (.slice la' (k.length + 1) lc') (k.length + 1) (hvals k ++ [.int .u64 (x2 : Int)]) -> (X.alloc (.cells #[.int .u64 (x2 : Int)] 27)).grownBy Y (Value.slice a k.length c).ownBlock -> ((Value.slice la' (k.length + 1) lc').ownBlock = (Value.slice a k.length c).ownBlock \/ (Value.slice la' (k.length + 1) lc').ownBlock = some (X.alloc (.cells #[.int .u64 (x2 : Int)] 27)).heap.size) ->
     Y.cell? ⟨w2.heap.size + 1, 0, none⟩ = some (.slice a k.length c) /\ Y.frozen? ⟨w2.heap.size + 1, 0, none⟩ = false /\ Hid (RPost (RowH D R db W4.heap.size w.heap.size w2.heap.size (w2.heap.size + 1) (par D h)) (fun _ _ _ _ => False) (pre ++ [(x1, x2)]) (fun b => b = w2.heap.size \/ b = w2.heap.size + 1 \/ (Value.slice a k.length c).ownBlock = some b) X .normal (Y.setCell ⟨w2.heap.size + 1, 0, none⟩ (.slice la' (k.length + 1) lc'))) := by
    intro Y la' lc' r1 r2 r3
    have nb : ∀ j, (Value.slice a k.length c).ownBlock = some j -> W4.heap.size <= j := fun j hj => (own_block_lt q3 j hj).1
    have kp : ∀ j, j < X.heap.size -> (Value.slice a k.length c).ownBlock ≠ some j -> Y.heap[j]? = X.heap[j]? := fun j hj hne => (r2.block j (by simp; omega) (fun e => hne e.symm)).trans (Below.heap_alloc _ _ _ hj)
    have e1 : IsC Y w2.heap.size #[.int .u64 (p : Int)] := q1.of_block (kp _ q1.lt (fun e => by have := nb _ e; omega))
    have e2 : IsC Y (w2.heap.size + 1) #[.slice a k.length c] := q2.of_block (kp _ q2.lt (fun e => by have := nb _ e; omega))
    have tY : Tn (fun b => (Value.slice a k.length c).ownBlock = some b) X Y := ⟨r2.os, r2.tape, r2.output, Nat.le_trans (by simp) r2.size, kp⟩
    have t2 : Tn (fun b => b = w2.heap.size + 1) Y (Y.setCell ⟨w2.heap.size + 1, 0, none⟩ (.slice la' (k.length + 1) lc')) := (Tn.refl (fun b => b = w2.heap.size + 1) Y).set (p := ⟨w2.heap.size + 1, 0, none⟩) (.inl rfl) _
    have hlen : (k ++ [x2]).length = k.length + 1 := by simp
    have rb := own_block_lt r1
    have hRl : ∀ b, R b -> b < W0.heap.size := HV.out.1.lt
    refine ⟨e2.cell 0, e2.frozen 0, fun b => b = w2.heap.size \/ b = w2.heap.size + 1 \/ (Value.slice la' (k.length + 1) lc').ownBlock = some b, (tY.mono (fun _ _ h => .inr (.inr h))).trans t2 (fun _ _ h => .inr (.inl h)), fun b hb => ?_, la', lc', k ++ [x2], p, hsn, by rw [hlen], e1.tn t2 (by omega), ?_, ?_, Nat.le_trans q4 (Nat.le_trans tY.size t2.size), ?_, ?_⟩
    ·rcases hb with h | h | h
     ·exact .inl (.inl h)
     ·exact .inl (.inr (.inl h))
     ·rcases r3 with r3 | r3
      ·exact .inl (.inr (.inr (r3 ▸ h)))
      ·rw [h] at r3
       simp at r3
       exact .inr (by omega)
    ·obtain ⟨t, ht⟩ := e2
     refine ⟨t, ?_⟩
     rw [hlen]
     simp [World.setCell, Array.getElem?_modify, ht]
    ·rw [hlen, show hvals (k ++ [x2]) = hvals k ++ [.int .u64 (x2 : Int)] by simp [hvals]]
     exact own_of_block r1 (fun j hj => t2.block j (rb j hj).2 (fun e => by have := (rb j hj).1; omega))
    ·exact (q5.turn tY.gr (fun b hb e => by have := hRl b hb; have := nb _ e; omega)).turn t2.gr (fun b hb e => by have := hRl b hb; omega)
    ·exact (q6.tn tY (fun e => by have := nb _ e; omega)).tn t2 (by omega)
   have hnews : ∀ (j : Nat) (u : Value), ([.int .u64 (x2 : Int)] : List Value)[j]? = some u -> (X.alloc (.cells #[.int .u64 (x2 : Int)] 27)).cell? ((⟨X.heap.size, 0, none⟩ : Addr).add j) = some u := by
    intro j u hu
    cases j with
    | zero =>
     simp at hu
     subst hu
     exact (isC_new X #[.int .u64 (x2 : Int)] 27).cell 0
    | succ j => simp at hu
   have hWX : W4.heap.size <= X.heap.size := q4
   have hlx : w2.heap.size + 1 < X.heap.size + 1 := by omega
   clear q0 q1 q2 q3 q4 q5 q6 hsn hxp hxm hsx hpre hb h0 t4 zB t14 t04 hL hcall
   gi_wp2_with (gi_at_builtin; (with_reducible refine wpListIn_append_own_at _ rfl _ _ 23 rfl W4.heap.size 27 i0 (.int .u64 0) 1 8 Tryz.underlying23 hi0 hz0 hz1 hz2 rfl (by decide) (.slice a k.length c) k.length (hvals k) ?p1 ?p2 ⟨X.heap.size, 0, none⟩ 1 1 [.int .u64 (x2 : Int)] ?p3 ?p4 ?p5 ?p6 ?p7 ?p8 ?p9 ?p10); (case p1 => rfl); (case p2 => exact HQa.out); (case p3 => rfl); (case p4 => rfl); (case p5 => exact hnews); (case p6 => (intro u hu; simp at hu; subst hu; rfl)); (case p7 => (unfold maxLen; omega)); (case p8 => omega); (case p9 => (simp; omega)); intro v' Y q1 q2 q3 q4; obtain ⟨la', lc', rfl⟩ := own_slice q1; obtain ⟨s1, s2, s4⟩ := hfin Y la' lc' q1 q2 q4; clear q1 q2 q3 q4 hfin)
   exact s4.out
 case done =>
  rintro C X ⟨a, c, k, p, q0, rfl, q1, q2, q3, q4, q5, q6⟩ tX hqX hC hD nD
  rw [<- hB] at q0
  have tP : Tn (fun k => k = W4.heap.size) X (X.putObj W4.heap.size (.deferred none)) := Tn.put _ _ _
  have c7 : X.cell? ⟨w2.heap.size + 1, 0, none⟩ = some (.slice a k.length c) := q2.cell 0
  have l7 := q2.lt
  have h4w : w2.heap.size + 1 < W4.heap.size /\ w.heap.size < W0.heap.size /\ W0.heap.size <= w2.heap.size := ⟨by have := h2; have := t4.size; omega, HV.out.2.2.2.lt, by have := HO1.out.2.size; omega⟩
  have HG : Hid (∃ a' c', Ending.returned (.slice a k.length c) = .returned (.slice a' (prc D B (par D h) []).2.length c') /\ (X.putObj W4.heap.size (.deferred none)).ownsRow w.heap.size 27 1 (.slice a' (prc D B (par D h) []).2.length c') (prc D B (par D h) []).2.length (hvals (prc D B (par D h) []).2) /\ Below w.heap.size w (X.putObj W4.heap.size (.deferred none))) := by
   rw [q0]
   have tw : Tn (fun _ => False) w W4 := HT0.out.trans HW4.out.1 (fun _ _ h => h)
   refine ⟨a, c, rfl, own_weak (own_of_block q3 (fun j hj => tP.block j (own_block_lt q3 j hj).2 (fun (e : j = W4.heap.size) => nD (.inr (.inr (e ▸ hj)))))) (by have := tw.size; omega), ?_⟩
   have := (tw.trans tX (fun i hi h => ?_)).trans tP (fun i hi (e : i = W4.heap.size) => by have := tw.size; omega)
   ·exact this.below (Nat.le_refl _) (fun _ h => h.elim)
   ·rcases h with h | h | h | h
    ·exact h
    ·omega
    ·omega
    ·cases h
  clear q0 q1 q2 q3 q4 q5 q6 tX hqX hC nD tP
  have hKf := HK.out
  gi_wp2
  refine ⟨by simp, .inl ⟨_, _, rfl, run_takeDeferred hD, ?_⟩⟩
  refine ⟨_, results_tmp rfl _ _ _, ?_⟩
  exact HG.out
 case stop =>
  rintro c pre C X hpre hF
  exact hF.elim
end Go.Proofs.YtjkgjckkglfokaaGreat
/- The axis of what lies ahead, as an iterator. -/
namespace Go.Proofs.YtjkgjckkglfokaaGreat
open Go.RowKit Go.Shelf
open Gr (Dc Sl View WF sl par hvals allR idxH)
set_option linter.unusedVariables false
set_option linter.unusedSimpArgs false
set_option maxRecDepth 100000
set_option maxHeartbeats 2000000
attribute [local go_sem] Oper.semAt_some
def ahead (D : Dc) (h m : Nat) : List Nat := (prc D ((bwd ((allR D).take m)).map (·.2)) (par D h) []).2
theorem hds_own {w : World} {N c : Nat} {a : Option Addr} {L : List Nat} (h : w.ownsRow N 27 1 (.slice a L.length c) L.length (hvals L)) : ∃ g, HdsAt w g a L /\ (L ≠ [] -> N <= g) := by
 by_cases h0 : L = []
 ·subst h0
  exact ⟨0, fun i x hx => by simp at hx, fun h => absurd rfl h⟩
 ·obtain ⟨g, e, h1, -, -, h2, -⟩ := row_hands h rfl (List.length_pos_iff.2 h0)
  exact ⟨g, h2, fun _ => h1⟩
def AlP (w : World) (L : List Nat) (e : Ending) (w' : World) : Prop := ∃ a c g, e = .returned (.slice a L.length c) /\ HdsAt w' g a L /\ (L ≠ [] -> w.heap.size <= g) /\ L.length <= c /\ Below w.heap.size w w'
theorem own_cap {w : World} {N n c : Nat} {a : Option Addr} {xs : List Value} (h : w.ownsRow N 27 1 (.slice a n c) n xs) : n <= c := by
 rcases h.2 with ⟨h1, h2⟩ | ⟨g, cap, cur, e, -, -, h3⟩
 ·cases h1; omega
 ·cases e
  have := h3.1
  first | omega | exact this
theorem along_prec (w : World) (R : Nat -> Prop) (db : Nat) (D : Dc) (h m : Nat) (s : Sl) (hv : View w R db D) (hw : WF D) (hs : sl D h = some s) (hm : idxH (allR D) h = (m : Int)) (hml : m < (allR D).length) (L : List Nat) (hL : ahead D h m = L) :
  Calls Tryz.prog 27 #[.pointer (some ⟨db, 0, none⟩), .int .i64 8, .int .u64 (h : Int)] w (AlP w L) := by
 have hp := preceding_any w R db D h m s hv hw hs hm hml _ rfl
 unfold ahead at hL
 rw [hL] at hp
 clear hv hw hs hm hml hL
 go_enter Tryz.func27, Tryz.ntmps27
 go_wp2_with fail
 refine hp.mono ?_
 rintro e w1 ⟨a, c, rfl, ho, hb⟩
 obtain ⟨g, hg1, hg2⟩ := hds_own ho
 have HB : Hid (HdsAt w1 g a L /\ (L ≠ [] -> w.heap.size <= g) /\ L.length <= c /\ Below w.heap.size w w1) := ⟨hg1, hg2, own_cap ho, hb⟩
 clear ho hb hp hg1 hg2
 go_wp2
 go_ret
 exact ⟨a, c, g, rfl, HB.out⟩
theorem axis_seq {R : Nat -> Prop} {db : Nat} {D : Dc} {h k : Nat} {s : Sl} (hw : WF D) (hs : sl D h = some s) {L : List Nat} (hL : ∀ W, View W R db D -> Calls Tryz.prog 27 #[.pointer (some ⟨db, 0, none⟩), .int .i64 (k : Int), .int .u64 (h : Int)] W (AlP W L)) (hl : L.length < 4611686018427387904) {d1 d2 d3 : Nat} :
  IsSeq Tryz.prog 25 #[.pointer (some ⟨d1, 0, none⟩), .pointer (some ⟨d2, 0, none⟩), .pointer (some ⟨d3, 0, none⟩)] encH L (fun b => R b \/ b = d1 \/ b = d2 \/ b = d3) (fun _ => False) (fun W => View W R db D /\ IsC W d1 #[.pointer (some ⟨db, 0, none⟩)] /\ IsC W d2 #[.int .u64 (h : Int)] /\ IsC W d3 #[.int .i64 (k : Int)]) := by
 have stab : ∀ W W' A, (View W R db D /\ IsC W d1 #[.pointer (some ⟨db, 0, none⟩)] /\ IsC W d2 #[.int .u64 (h : Int)] /\ IsC W d3 #[.int .i64 (k : Int)]) -> Tn A W W' -> (∀ b, (R b \/ b = d1 \/ b = d2 \/ b = d3) -> ¬ A b) -> (View W' R db D /\ IsC W' d1 #[.pointer (some ⟨db, 0, none⟩)] /\ IsC W' d2 #[.int .u64 (h : Int)] /\ IsC W' d3 #[.int .i64 (k : Int)]) :=
  fun W W' A q ht hA => ⟨q.1.turn ht.gr (fun b hb => hA b (.inl hb)), q.2.1.tn ht (hA _ (.inr (.inl rfl))), q.2.2.1.tn ht (hA _ (.inr (.inr (.inl rfl)))), q.2.2.2.tn ht (hA _ (.inr (.inr (.inr rfl))))⟩
 refine ⟨fun b hb => hb.elim, fun W q b hb => ?_, stab, ?_⟩
 ·rcases hb with hb | rfl | rfl | rfl
  ·exact q.1.lt b hb
  ·exact q.2.1.lt
  ·exact q.2.2.1.lt
  ·exact q.2.2.2.lt
 ·intro W l J Jx C0 Dd hq stJ stJx hY h0 hd hdT
  have HQ := hid hq
  have c1 : W.cell? ⟨d1, 0, none⟩ = some (.pointer (some ⟨db, 0, none⟩)) := hq.2.1.cell 0
  have c2 : W.cell? ⟨d2, 0, none⟩ = some (.int .u64 (h : Int)) := hq.2.2.1.cell 0
  have c3 : W.cell? ⟨d3, 0, none⟩ = some (.int .i64 (k : Int)) := hq.2.2.2.cell 0
  have HST : Hid _ := stab
  have HWF : Hid ((∀ W, View W R db D -> Calls Tryz.prog 27 #[.pointer (some ⟨db, 0, none⟩), .int .i64 (k : Int), .int .u64 (h : Int)] W (AlP W L)) /\ L.length < 4611686018427387904) := ⟨hL, hl⟩
  have HY := hid hY
  have HD := hid hd
  have HSJ : Hid (Stb Dd J /\ Stb Dd Jx /\ J [] C0 W) := ⟨stJ, stJx, h0⟩
  have hin := isnode_live W R db D h s hq.1 hw hs
  clear hq stab hw hs hL hl hY hd stJ stJx h0 hdT
  refine callsIn_of_wp Tryz.func25 rfl trivial ?_ rfl
  simp only [Tryz.ntmps25, List.size_toArray, List.length_cons, List.length_nil, Nat.reduceAdd, Nat.reduceSub, Array.replicate_succ, Array.replicate_zero, List.push_toArray, List.append_toArray, List.nil_append, List.cons_append]
  gi_wp2_with fail
  refine ⟨trivial, rfl, (callsIn_wide.2 hin).mono ?_⟩
  rintro e w1 ⟨rfl, hb1⟩
  have t1 : Tn (fun _ => False) W w1 := Tn.of_below hb1 (Nat.le_refl _)
  have q1 := HST.out W w1 _ HQ.out t1 (fun _ _ h => h)
  have HQ1 : Hid (_ /\ Tn (fun _ => False) W w1) := ⟨q1, t1⟩
  have e1 : w1.cell? ⟨d1, 0, none⟩ = some (.pointer (some ⟨db, 0, none⟩)) := q1.2.1.cell 0
  have e2 : w1.cell? ⟨d2, 0, none⟩ = some (.int .u64 (h : Int)) := q1.2.2.1.cell 0
  have e3 : w1.cell? ⟨d3, 0, none⟩ = some (.int .i64 (k : Int)) := q1.2.2.2.cell 0
  have hal := HWF.out.1 w1 q1.1
  clear q1 t1 hb1 hin c1 c2 c3
  gi_wp2_with fail
  refine ⟨trivial, rfl, (callsIn_wide.2 hal).mono ?_⟩
  rintro e w2 ⟨a, c, g, rfl, hg1, hg2, -, hb2⟩
  have t2 : Tn (fun _ => False) w1 w2 := Tn.of_below hb2 (Nat.le_refl _)
  obtain ⟨n, hn⟩ : ∃ n, L.length = n := ⟨_, rfl⟩
  have hmv := mk_values w2 a n c
  obtain ⟨W3, hW3⟩ : ∃ W3, w2.alloc (.cells #[.slice a n c] 23) = W3 := ⟨_, rfl⟩
  rw [hW3] at hmv
  have t3 : Tn (fun _ => False) w2 W3 := by rw [<- hW3]; exact (Tn.refl _ _).alloc _
  have zB : IsC W3 w2.heap.size #[.slice a L.length c] := by rw [<- hW3, hn]; exact isC_new _ _ _
  have t03 : Tn (fun _ => False) W W3 := (HQ1.out.2.trans t2 (fun _ _ h => h)).trans t3 (fun _ _ h => h)
  have hvs := values_seq (xs := L) (a := a) (cap := c) (lb := w2.heap.size) (g := g) HWF.out.2
  have hC0l : ∀ b, C0 b -> b < W.heap.size := fun b hb => HSJ.out.1.1 _ _ _ HSJ.out.2.2 b (.inl hb)
  have hz1 := HQ1.out.2.size
  have hz2 := t2.size
  have hrun := hvs.run W3 l J Jx C0 Dd ⟨zB, hg1.tn t3 (fun _ h => h)⟩ HSJ.out.1 HSJ.out.2.1 HY.out (HSJ.out.1.2 _ _ _ _ _ HSJ.out.2.2 t03 (fun _ _ h => h)) (fun b hb hr => by
   have := hC0l b hb
   rcases hr with hr | ⟨hn0, rfl⟩
   ·omega
   ·have := hg2 hn0; omega) (fun _ _ h => h)
  have HT3 := hid t03
  have em := enters_of Tryz.func61 (by kernel_rfl) rfl
  rw [hn]
  clear hb2 t2 t3 zB t03 hg1 hg2 hal e1 e2 e3 hvs hC0l hW3
  gi_wp2_with fail
  refine ⟨trivial, rfl, (callsIn_wide.2 hmv).mono ?_⟩
  rintro e w' ⟨rfl, rfl⟩
  gi_wp2_with fail
  refine ⟨trivial, rfl, hrun.mono ?_⟩
  rintro e Y ⟨⟨v, rfl⟩, tY, qY, C, hC, hJ⟩
  have HG : Hid (Tn (fun b => False \/ C0 b) W Y /\ (View Y R db D /\ IsC Y d1 #[.pointer (some ⟨db, 0, none⟩)] /\ IsC Y d2 #[.int .u64 (h : Int)] /\ IsC Y d3 #[.int .i64 (k : Int)]) /\ ∃ C, (∀ b, C b -> C0 b \/ W.heap.size <= b) /\ (J L C Y \/ ∃ pre, pre <+: L /\ Jx pre C Y)) := by
   have tt : Tn (fun b => False \/ C0 b) W Y := (HT3.out.mono (fun _ _ h => h.elim)).trans tY (fun _ _ h => h)
   exact ⟨tt, HST.out W Y _ HQ.out tt (fun b hb h => h.elim id (fun h => HD.out b h hb)), C, fun b hb => (hC b hb).imp id (Nat.le_trans HT3.out.size), hJ⟩
  clear tY qY hC hJ hrun
  gi_wp2
  go_end0
  exact ⟨⟨_, rfl⟩, HG.out.1, HG.out.2.1, HG.out.2.2⟩
end Go.Proofs.YtjkgjckkglfokaaGreat
/- Axis, goes and quiet. -/
namespace Go.Proofs.YtjkgjckkglfokaaGreat
open Go.RowKit Go.Shelf
open Gr (Dc Sl View WF sl par hvals allR idxH)
set_option linter.unusedVariables false
set_option linter.unusedSimpArgs false
set_option maxRecDepth 100000
set_option maxHeartbeats 2000000
attribute [local go_sem] Oper.semAt_some
theorem quiet_any (w : World) (x : Int) : Calls Tryz.prog 12 #[.int .i64 x] w fun e w' => e = .returned (.bool true) /\ w' = w := by
 go_enter Tryz.func12, Tryz.ntmps12
 go_wp2
 go_ret
 exact ⟨rfl, rfl⟩
theorem mk_axis (w : World) (R : Nat -> Prop) (db : Nat) (D : Dc) (h k : Nat) (s : Sl) (k1 : 1 <= k) (k2 : k <= 11) (hv : View w R db D) (hw : WF D) (hs : sl D h = some s) :
  Calls Tryz.prog 8 #[.pointer (some ⟨db, 0, none⟩), .int .i64 (k : Int), .int .u64 (h : Int)] w fun e w' => e = .returned (.tuple #[.func (.func 25) #[] #[.pointer (some ⟨w.heap.size, 0, none⟩), .pointer (some ⟨w.heap.size + 2, 0, none⟩), .pointer (some ⟨w.heap.size + 1, 0, none⟩)], .int .i64 0]) /\ Tn (fun _ => False) w w' /\ IsC w' w.heap.size #[.pointer (some ⟨db, 0, none⟩)] /\ IsC w' (w.heap.size + 1) #[.int .i64 (k : Int)] /\ IsC w' (w.heap.size + 2) #[.int .u64 (h : Int)] := by
 have k3 : ¬ (k : Int) < 1 := by omega
 have k4 : ¬ 11 < (k : Int) := by omega
 have hmf : ∀ (fn : Fn) (first cap : Array Value) (w : World), (Instr.makeFunc fn first cap).run Tryz.prog w = .ok (.func fn first cap) w := fun _ _ _ _ => rfl
 obtain ⟨W3, hW3⟩ : ∃ W3, ((w.alloc (.cells #[.pointer (some ⟨db, 0, none⟩)] 34)).alloc (.cells #[.int .i64 (k : Int)] 3)).alloc (.cells #[.int .u64 (h : Int)] 27) = W3 := ⟨_, rfl⟩
 have n := fun (w : World) (o : Obj) => (Tn.refl (fun _ => False) w).alloc o
 have t3 : Tn (fun _ => False) w W3 := by rw [<- hW3]; exact ((n _ _).alloc _).alloc _
 have y0 : IsC W3 w.heap.size #[.pointer (some ⟨db, 0, none⟩)] := by rw [<- hW3]; exact ((isC_new _ _ _).tn (n _ _) id).tn (n _ _) id
 have y1 : IsC W3 (w.heap.size + 1) #[.int .i64 (k : Int)] := by
  have := (isC_new (w.alloc (.cells #[.pointer (some ⟨db, 0, none⟩)] 34)) #[.int .i64 (k : Int)] 3).tn (n _ (.cells #[.int .u64 (h : Int)] 27)) id
  rw [hW3] at this
  simpa using this
 have y2 : IsC W3 (w.heap.size + 2) #[.int .u64 (h : Int)] := by
  have := isC_new ((w.alloc (.cells #[.pointer (some ⟨db, 0, none⟩)] 34)).alloc (.cells #[.int .i64 (k : Int)] 3)) #[.int .u64 (h : Int)] 27
  rw [hW3] at this
  simpa using this
 have hin := isnode_live W3 R db D h s (hv.turn t3.gr (fun _ _ h => h)) hw hs
 have HY : Hid (Tn (fun _ => False) w W3 /\ IsC W3 w.heap.size #[.pointer (some ⟨db, 0, none⟩)] /\ IsC W3 (w.heap.size + 1) #[.int .i64 (k : Int)] /\ IsC W3 (w.heap.size + 2) #[.int .u64 (h : Int)]) := ⟨t3, y0, y1, y2⟩
 have HW3 := hid hW3
 clear hW3 t3 y0 y1 y2 hv hw hs n
 go_enter Tryz.func8, Tryz.ntmps8
 go_wp2_with fail
 rw [HW3.out]
 refine hin.mono ?_
 rintro e w1 ⟨rfl, hb1⟩
 have t1 : Tn (fun _ => False) W3 w1 := Tn.of_below hb1 (Nat.le_refl _)
 have HG : Hid (Tn (fun _ => False) w w1 /\ IsC w1 w.heap.size #[.pointer (some ⟨db, 0, none⟩)] /\ IsC w1 (w.heap.size + 1) #[.int .i64 (k : Int)] /\ IsC w1 (w.heap.size + 2) #[.int .u64 (h : Int)]) := ⟨HY.out.1.trans t1 (fun _ _ h => h), HY.out.2.1.tn t1 id, HY.out.2.2.1.tn t1 id, HY.out.2.2.2.tn t1 id⟩
 clear hb1 t1 hin
 go_wp2
 go_ret2
 exact ⟨rfl, HG.out⟩
theorem goe_end {gf : Nat} {lb : Array Value} {xs : List Nat} {R T : Nat -> Prop} {Sq : World -> Prop} (hs : IsSeq Tryz.prog gf lb encH xs R T Sq) {W W0 X : World} (hq : Sq W) (t0 : Tn (fun _ => False) W W0) {N r : Nat} (hN : W.heap.size <= N) (tX : Tn (fun b => T b \/ (N <= b /\ b <= r)) W0 X) (hqX : Sq X) {rb : Nat} (q3 : IsC X rb #[.bool false]) (hr : W.heap.size <= rb /\ rb < W0.heap.size) :
  Tn T W ((X.setCell ⟨rb, 0, none⟩ (.bool true)).putObj W0.heap.size (.deferred none)) /\ Sq ((X.setCell ⟨rb, 0, none⟩ (.bool true)).putObj W0.heap.size (.deferred none)) /\ IsC ((X.setCell ⟨rb, 0, none⟩ (.bool true)).putObj W0.heap.size (.deferred none)) rb #[.bool true] := by
 have hz := t0.size
 have t1 : Tn (fun b => b = rb) X (X.setCell ⟨rb, 0, none⟩ (.bool true)) := (Tn.refl (fun b => b = rb) X).set (p := ⟨rb, 0, none⟩) (.inl rfl) _
 have t2 := Tn.put (X.setCell ⟨rb, 0, none⟩ (.bool true)) W0.heap.size (.deferred none)
 have hRl : ∀ b, R b -> b < W.heap.size := hs.lt _ hq
 refine ⟨?_, hs.stab _ _ _ (hs.stab _ _ _ hqX t1 (fun b hb (e : b = rb) => by have := hRl b hb; omega)) t2 (fun b hb (e : b = W0.heap.size) => by have := hRl b hb; omega), ?_⟩
 ·refine (((t0.mono (B := T) (fun _ _ h => h.elim)).trans tX (fun i hi h => h.elim id (fun h => by omega))).trans t1 (fun i hi (e : i = rb) => by omega)).trans t2 (fun i hi (e : i = W0.heap.size) => by omega)
 ·obtain ⟨t, ht⟩ := q3
  refine ⟨t, ?_⟩
  refine (World.putObj_heap_other (by omega)).trans ?_
  simp [World.setCell, Array.getElem?_modify, ht]
theorem goes_any {gf : Nat} {lb : Array Value} {xs : List Nat} {R T : Nat -> Prop} {Sq : World -> Prop} (hs : IsSeq Tryz.prog gf lb encH xs R T Sq) (eg : ∀ args w, (callFunc gf args).run Tryz.prog w = .ok (.enter gf args) w)
  (W : World) (hq : Sq W) (a : Option Addr) (cap g : Nat) (hK : HdsAt W g a xs) (hKT : xs ≠ [] -> ¬ T g) (hl : xs.length < 4611686018427387904) :
  CallsIn Fence.wide 0 Tryz.prog 11 #[.func (.func gf) #[] lb, .slice a xs.length cap, .int .i64 (-1), .func (.func 12) #[] #[]] W fun e Y => e = .returned (.bool true) /\ Tn T W Y /\ Sq Y := by
 obtain ⟨W0, hW0⟩ : ∃ W0, ((((((W.alloc (.cells #[.slice a xs.length cap] 23)).alloc (.cells #[.int .i64 (-1)] 3)).alloc (.cells #[.func (.func 12) #[] #[]] 47)).alloc (.cells #[.bool false] 4)).alloc (.cells #[.int .i64 0] 3)).alloc (.cells #[.bool true] 4)) = W0 := ⟨_, rfl⟩
 have HW0 := hid hW0
 clear hW0
 have hq1 : ∀ w, (binOp .eql 40 (.func (.func gf) #[] lb) .nilFunc).run Tryz.prog w = .ok (.bool false) w := fun _ => by kernel_rfl
 have HSQ := hid hq
 have HS := hid hs
 have HK : Hid (HdsAt W g a xs /\ (xs ≠ [] -> ¬ T g)) := ⟨hK, hKT⟩
 have hxs : (xs.length : Int) < 4611686018427387904 := by omega
 have e63 := enters_of Tryz.func12 (by kernel_rfl) rfl
 clear hq hs hK hKT
 refine callsIn_of_wp_marks Tryz.func11 rfl trivial ?_ rfl
 simp only [Tryz.ntmps11, List.size_toArray, List.length_cons, List.length_nil, Nat.reduceAdd, Nat.reduceSub, Array.replicate_succ, Array.replicate_zero, List.push_toArray, List.append_toArray, List.nil_append, List.cons_append]
 gi_wp2_with fail
 rw [HW0.out]
 have hb0 : Below W.heap.size W W0 := by rw [<- HW0.out]; exact ((((((Below.refl _ _).alloc (Nat.le_refl _) _).alloc (by simp) _).alloc (by simp; omega) _).alloc (by simp; omega) _).alloc (by simp; omega) _).alloc (by simp; omega) _
 have t0 : Tn (fun _ => False) W W0 := Tn.of_below hb0 (Nat.le_refl _)
 have hy0 : IsC W0 W.heap.size #[.slice a xs.length cap] /\ IsC W0 (W.heap.size + 1) #[.int .i64 (-1)] /\ IsC W0 (W.heap.size + 2) #[.func (.func 12) #[] #[]] /\ IsC W0 (W.heap.size + 3) #[.bool false] /\ IsC W0 (W.heap.size + 4) #[.int .i64 0] /\ IsC W0 (W.heap.size + 5) #[.bool true] := by
  have h1 := isC_new W #[.slice a xs.length cap] 23
  have h2 := isC_new (W.alloc (.cells #[.slice a xs.length cap] 23)) #[.int .i64 (-1)] 3
  have h3 := isC_new ((W.alloc (.cells #[.slice a xs.length cap] 23)).alloc (.cells #[.int .i64 (-1)] 3)) #[.func (.func 12) #[] #[]] 47
  have h4 := isC_new (((W.alloc (.cells #[.slice a xs.length cap] 23)).alloc (.cells #[.int .i64 (-1)] 3)).alloc (.cells #[.func (.func 12) #[] #[]] 47)) #[.bool false] 4
  have h5 := isC_new ((((W.alloc (.cells #[.slice a xs.length cap] 23)).alloc (.cells #[.int .i64 (-1)] 3)).alloc (.cells #[.func (.func 12) #[] #[]] 47)).alloc (.cells #[.bool false] 4)) #[.int .i64 0] 3
  have h6 := isC_new (((((W.alloc (.cells #[.slice a xs.length cap] 23)).alloc (.cells #[.int .i64 (-1)] 3)).alloc (.cells #[.func (.func 12) #[] #[]] 47)).alloc (.cells #[.bool false] 4)).alloc (.cells #[.int .i64 0] 3)) #[.bool true] 4
  rw [<- HW0.out]
  have n := fun (w : World) (o : Obj) => (Tn.refl (fun _ => False) w).alloc o
  refine ⟨((((h1.tn (n _ _) id).tn (n _ _) id).tn (n _ _) id).tn (n _ _) id).tn (n _ _) id, ?_, ?_, ?_, ?_, ?_⟩
  ·simpa using (((h2.tn (n _ _) id).tn (n _ _) id).tn (n _ _) id).tn (n _ _) id
  ·simpa using ((h3.tn (n _ _) id).tn (n _ _) id).tn (n _ _) id
  ·simpa using (h4.tn (n _ _) id).tn (n _ _) id
  ·simpa using h5.tn (n _ _) id
  ·simpa using h6
 have hs0 : W.heap.size + 5 < W0.heap.size := hy0.2.2.2.2.2.lt
 have hRl : ∀ b, R b -> b < W.heap.size := HS.out.lt _ HSQ.out
 have hgl : xs ≠ [] -> g < W.heap.size := HK.out.1.lt
 obtain ⟨I, hI⟩ : ∃ I : Inv Nat, I = fun s C X => C = (fun b => W.heap.size <= b /\ b <= W.heap.size + 5) /\ IsC X W.heap.size #[.slice a xs.length cap] /\ IsC X (W.heap.size + 1) #[.int .i64 (-1)] /\ IsC X (W.heap.size + 2) #[.func (.func 12) #[] #[]] /\ IsC X (W.heap.size + 3) #[.bool false] /\ IsC X (W.heap.size + 4) #[.int .i64 (s.length : Int)] /\ IsC X (W.heap.size + 5) #[.bool true] /\ HdsAt X g a xs := ⟨_, rfl⟩
 have stI : Stb (fun b => xs ≠ [] /\ b = g) I := by
  rw [hI]
  refine ⟨?_, ?_⟩
  ·rintro s C X ⟨rfl, -, -, -, -, -, q5, q6⟩ b hb
   rcases hb with hb | ⟨hb, rfl⟩
   ·have := q5.lt; omega
   ·exact q6.lt hb
  ·rintro s C A X Y ⟨rfl, q1, q2, q3, q4, q5, q6, q7⟩ ht hA
   have hc : ∀ j, j <= 5 -> ¬ A (W.heap.size + j) := fun j hj => hA _ (.inl ⟨by omega, by omega⟩)
   exact ⟨rfl, q1.tn ht (hc 0 (by omega)), q2.tn ht (hc 1 (by omega)), q3.tn ht (hc 2 (by omega)), q4.tn ht (hc 3 (by omega)), q5.tn ht (hc 4 (by omega)), q6.tn ht (hc 5 (by omega)), q7.tn ht (fun hn => hA _ (.inr ⟨hn, rfl⟩))⟩
 have h0 : I [] (fun b => W.heap.size <= b /\ b <= W.heap.size + 5) W0 := by
  rw [hI]
  exact ⟨rfl, hy0.1, hy0.2.1, hy0.2.2.1, hy0.2.2.2.1, hy0.2.2.2.2.1, hy0.2.2.2.2.2, HK.out.1.tn t0 (fun _ h => h)⟩
 have hW : Sq W0 := HS.out.stab _ _ _ HSQ.out t0 (fun _ _ h => h)
 refine range_it (gf := gf) (lb := lb) rfl eg (encs := encH) (fun _ => rfl) HS.out hW I (fun _ _ _ _ => False) (fun b => xs ≠ [] /\ b = g) stI (fun _ => ⟨fun _ _ _ h => h.elim, fun _ _ _ _ _ h => h.elim⟩) (fun b => W.heap.size <= b /\ b <= W.heap.size + 5) h0 (fun b hb hr => by have := hRl b hr; omega) (fun b hb ht => by obtain ⟨h1, rfl⟩ := hb; exact HK.out.2 h1 ht)
  (fun x a' => ∃ t13, a' = { tmps := t13, defers := [] } /\ t13 = #[.func (.func gf) #[] lb, .slice a xs.length cap, .int .i64 (-1), .func (.func 12) #[] #[], undef, .pointer (some ⟨W.heap.size, 0, none⟩), .pointer (some ⟨W.heap.size + 1, 0, none⟩), .pointer (some ⟨W.heap.size + 2, 0, none⟩), .pointer (some ⟨W.heap.size + 3, 0, none⟩), .pointer (some ⟨W.heap.size + 4, 0, none⟩), .pointer (some ⟨W.heap.size + 5, 0, none⟩), .int .u64 (x : Int), .func (.func gf) #[] lb, .bool false, .func (.func gf) #[] lb, .int .u64 (x : Int), undef, undef, undef, undef, undef, undef, undef, undef, undef, undef, undef, undef, undef, undef, undef, undef, undef, undef, undef, undef, undef, undef, undef, undef, undef, undef, undef, undef, undef, undef, undef, undef, undef, undef, undef, undef, undef, undef, undef])
  ?assign ?body ?done ?stop
 case assign =>
  intro l2 x X Kc hK
  unfold encH
  gi_wp2
 case body =>
  rintro l3 pre x a' C X hpre hIX ⟨_, rfl, rfl⟩
  have hIX' := hIX
  rw [hI] at hIX
  obtain ⟨rfl, q1, q2, q3, q4, q5, q6, q7⟩ := hIX
  have hx : xs[pre.length]? = some x := by
   obtain ⟨t, rfl⟩ := hpre
   simp
  have hlt : pre.length < xs.length := (List.getElem?_eq_some_iff.1 hx).1
  obtain ⟨o, rfl, g2, g3⟩ := q7 _ x hx
  have c1 : X.cell? ⟨W.heap.size, 0, none⟩ = some (.slice (some ⟨g, o, none⟩) xs.length cap) := q1.cell 0
  have c2 : X.cell? ⟨W.heap.size + 1, 0, none⟩ = some (.int .i64 (-1)) := q2.cell 0
  have c3 : X.cell? ⟨W.heap.size + 2, 0, none⟩ = some (.func (.func 12) #[] #[]) := q3.cell 0
  have c5 : X.cell? ⟨W.heap.size + 4, 0, none⟩ = some (.int .i64 (pre.length : Int)) := q5.cell 0
  have c6 : X.cell? ⟨W.heap.size + 5, 0, none⟩ = some (.bool true) := q6.cell 0
  have f5 := q5.frozen 0
  have f6 := q6.frozen 0
  have l4 := q6.lt
  have hgn : g < W.heap.size := hgl (by rintro h; rw [h] at hlt; simp at hlt)
  have hkl : ¬ (xs.length : Int) <= (pre.length : Int) := by omega
  have hk0 : (0 : Int) <= (pre.length : Int) := by omega
  have hkl2 : (pre.length : Int) < (xs.length : Int) := by omega
  have hxx : ((x : Int) == (x : Int)) = true := by simp
  have HX := hid hIX'
  have HQ5 : Hid (IsC X (W.heap.size + 4) #[.int .i64 (pre.length : Int)] /\ IsC X (W.heap.size + 5) #[.bool true]) := ⟨q5, q6⟩
  obtain ⟨k, hk⟩ : ∃ k, k = pre.length := ⟨_, rfl⟩
  rw [<- hk] at c5 g3 hkl hk0 hkl2 HQ5
  have HKK := hid hk
  obtain ⟨X0, hX0⟩ : ∃ X0, X.setCell ⟨W.heap.size + 5, 0, none⟩ (.bool true) = X0 := ⟨_, rfl⟩
  obtain ⟨X1, hX1⟩ : ∃ X1, X0.setCell ⟨W.heap.size + 4, 0, none⟩ (.int .i64 ((k : Int) + 1)) = X1 := ⟨_, rfl⟩
  have HX1 : Hid ((X.setCell ⟨W.heap.size + 5, 0, none⟩ (.bool true)).setCell ⟨W.heap.size + 4, 0, none⟩ (.int .i64 ((k : Int) + 1)) = X1) := by show _ = _; rw [hX0, hX1]
  have t0' : Tn (fun b => b = W.heap.size + 5) X X0 := by rw [<- hX0]; exact (Tn.refl (fun b => b = W.heap.size + 5) X).set (p := ⟨W.heap.size + 5, 0, none⟩) (.inl rfl) _
  have t1 : Tn (fun b => b = W.heap.size + 4) X0 X1 := by rw [<- hX1]; exact (Tn.refl (fun b => b = W.heap.size + 4) X0).set (p := ⟨W.heap.size + 4, 0, none⟩) (.inl rfl) _
  have t2 : Tn (fun b => b = W.heap.size + 4 \/ b = W.heap.size + 5) X X1 := (t0'.mono (fun _ _ h => .inr h)).trans t1 (fun _ _ h => .inl h)
  have HG : Hid (I (pre ++ [x]) (fun b => W.heap.size <= b /\ b <= W.heap.size + 5) X1 /\ Tn (fun b => W.heap.size <= b /\ b <= W.heap.size + 5) X X1) := by
   refine ⟨?_, t2.mono (fun b _ e => by omega)⟩
   rw [hI]
   refine ⟨rfl, q1.tn t2 (by omega), q2.tn t2 (by omega), q3.tn t2 (by omega), q4.tn t2 (by omega), ?_, ?_, q7.tn t2 (fun _ e => by omega)⟩
   ·obtain ⟨t, ht⟩ := q5.tn t0' (by omega)
    refine ⟨t, ?_⟩
    rw [<- hX1, List.length_append, List.length_singleton, <- hk]
    simp [World.setCell, Array.getElem?_modify, ht]
   ·refine IsC.tn ?_ t1 (by omega)
    obtain ⟨t, ht⟩ := q6
    exact ⟨t, by rw [<- hX0]; simp [World.setCell, Array.getElem?_modify, ht]⟩
  have hqu := quiet_any X (k : Int)
  clear hIX' q1 q2 q3 q4 q5 q6 q7 hx hpre hlt hk hX1 hX0 hI stI h0 hW t1 t0' t2 hy0 HQ5 hs0 hb0 t0 hgl
  have hmb : ((k : Int) + 1 == -1) = false := by simp; omega
  gi_wp2_with fail
  refine ⟨trivial, rfl, CallsIn.mono (F := Fence.wide) (callsIn_wide.2 hqu) ?_⟩
  rintro e w' ⟨rfl, rfl⟩
  gi_wp2
  rw [HX1.out]
  exact ⟨_, HG.out.2, fun b hb => .inl hb, HG.out.1⟩
 case done =>
  intro C X hIX tX hqX hC hD nD
  rw [hI] at hIX
  obtain ⟨rfl, q1, q2, q3, q4, q5, q6, q7⟩ := hIX
  have HE := goe_end HS.out HSQ.out t0 (Nat.le_refl _) tX hqX q4 ⟨by omega, by omega⟩
  have c1 : X.cell? ⟨W.heap.size, 0, none⟩ = some (.slice a xs.length cap) := q1.cell 0
  have c2 : X.cell? ⟨W.heap.size + 1, 0, none⟩ = some (.int .i64 (-1)) := q2.cell 0
  have c3 : X.cell? ⟨W.heap.size + 3, 0, none⟩ = some (.bool false) := q4.cell 0
  have c4 : X.cell? ⟨W.heap.size + 4, 0, none⟩ = some (.int .i64 (xs.length : Int)) := q5.cell 0
  have c5 : X.cell? ⟨W.heap.size + 5, 0, none⟩ = some (.bool true) := q6.cell 0
  have f3 := q4.frozen 0
  have l3 := q6.lt
  have hxx : ((xs.length : Int) == (xs.length : Int)) = true := by simp
  have HHE : Hid _ := HE
  have HDD := hid hD
  have hs0' := hs0
  clear hI q1 q2 q3 q4 q5 q6 q7 HE hD hy0 stI h0 hW hb0 t0
  gi_wp2
  have hD2 : (X.setCell ⟨W.heap.size + 3, 0, none⟩ (.bool true)).heap[W0.heap.size]? = some (.deferred (some [])) := (Below.heap_setCell _ _ _ _ (by simp; omega)).trans HDD.out
  refine ⟨by simp, .inl ⟨_, _, rfl, run_takeDeferred hD2, ?_⟩⟩
  exact ⟨_, res_bool rfl _ _ (W.heap.size + 3) _ rfl (HHE.out.2.2.cell 0), rfl, HHE.out.1, HHE.out.2.1⟩
 case stop =>
  intro c pre C X hpre hF
  exact hF.elim
end Go.Proofs.YtjkgjckkglfokaaGreat
/- In plain: where a node stands among all, and what the axes are. -/
namespace Go.Proofs.YtjkgjckkglfokaaGreat
open Go.RowKit Go.Shelf
open Gr (Dc Sl View WF sl par hvals allR idxH allH lst ups Lev)
set_option linter.unusedVariables false
set_option linter.unusedSimpArgs false
theorem prc_nil (D : Dc) (a : Nat) (l : List Nat) : prc D [] a l = (a, l) := rfl
theorem prc_cons (D : Dc) (x : Nat) (r : List Nat) (a : Nat) (l : List Nat) : prc D (x :: r) a l = if x = a then prc D r (par D x) l else prc D r a (l ++ [x]) := rfl
theorem prc_app (D : Dc) : ∀ (xs ys : List Nat) (a : Nat) (l : List Nat), prc D (xs ++ ys) a l = prc D ys (prc D xs a l).1 (prc D xs a l).2
 | [], ys, a, l => by rw [List.nil_append, prc_nil]
 | x :: r, ys, a, l => by
  rw [List.cons_append, prc_cons, prc_cons]
  by_cases h : x = a
  ·rw [if_pos h, if_pos h, prc_app D r]
  ·rw [if_neg h, if_neg h, prc_app D r]
theorem prc_no (D : Dc) : ∀ (xs : List Nat) (a : Nat) (l : List Nat), a ∉ xs -> prc D xs a l = (a, l ++ xs)
 | [], a, l, h => by rw [prc_nil, List.append_nil]
 | x :: r, a, l, h => by
  rw [prc_cons, if_neg (fun e => h (by simp [e])), prc_no D r a _ (fun hm => h (List.mem_cons_of_mem _ hm))]
  simp
theorem bwd_rev (L : List Nat) : (bwd L).map (·.2) = L.reverse := by
 apply List.ext_getElem
 ·simp [bwd]
 ·intro i h1 h2
  have hi : i < L.length := by simpa [bwd] using h1
  simp [bwd]
  rw [List.getElem?_eq_getElem (by omega)]
  rfl
theorem kids_split {D : Dc} {p h : Nat} (hm : h ∈ lst D p) : ∃ X Y, lst D p = X ++ h :: Y /\ (lst D p).flatMap (allH D) = X.flatMap (allH D) ++ (allH D h ++ Y.flatMap (allH D)) := by
 obtain ⟨X, Y, e⟩ := List.append_of_mem hm
 exact ⟨X, Y, e, by rw [e]; simp⟩
theorem place {D : Dc} (hw : WF D) {lv : Nat -> Nat} (hl : Lev D lv) : ∀ (m h : Nat) (s : Sl), sl D h = some s -> lv h <= m -> ∃ A B, allR D = A ++ (allH D h ++ B) /\ ∀ l, ∃ P, (prc D A.reverse s.parent l).2 = l ++ P /\ (P ++ ups D s.parent).Perm A := by
 intro m
 induction m with
 | zero =>
  intro h s e hm
  rcases hl.par e with ⟨h0, -⟩ | ⟨p, -, h2⟩
  ·have hu := hw.up h s e
   rw [h0] at hu
   obtain ⟨X, Y, -, e2⟩ := kids_split hu
   refine ⟨X.flatMap (allH D), Y.flatMap (allH D), by rw [<- e2]; rfl, fun l => ⟨(X.flatMap (allH D)).reverse, ?_, ?_⟩⟩
   ·rw [h0, prc_no]
    intro hm0
    have : 0 ∈ allR D := by
     have e3 : allR D = (lst D 0).flatMap (allH D) := rfl
     rw [e3, e2]
     exact List.mem_append_left _ (List.mem_reverse.1 hm0)
    obtain ⟨s', hs'⟩ := Gr.allR_live hw 0 this
    rw [Gr.sl_zero] at hs'; cases hs'
   ·rw [h0, Gr.ups_zero, List.append_nil]
    exact List.reverse_perm _
  ·omega
 | succ m ih =>
  intro h s e hm
  rcases hl.par e with ⟨h0, -⟩ | ⟨p, hp, h2⟩
  ·have hu := hw.up h s e
   rw [h0] at hu
   obtain ⟨X, Y, -, e2⟩ := kids_split hu
   refine ⟨X.flatMap (allH D), Y.flatMap (allH D), by rw [<- e2]; rfl, fun l => ⟨(X.flatMap (allH D)).reverse, ?_, ?_⟩⟩
   ·rw [h0, prc_no]
    intro hm0
    have : 0 ∈ allR D := by
     have e3 : allR D = (lst D 0).flatMap (allH D) := rfl
     rw [e3, e2]
     exact List.mem_append_left _ (List.mem_reverse.1 hm0)
    obtain ⟨s', hs'⟩ := Gr.allR_live hw 0 this
    rw [Gr.sl_zero] at hs'; cases hs'
   ·rw [h0, Gr.ups_zero, List.append_nil]
    exact List.reverse_perm _
  ·obtain ⟨A, B, e1, e3⟩ := ih s.parent p hp (by omega)
   obtain ⟨X, Y, -, e2⟩ := kids_split (hw.up h s e)
   have hst := Gr.allH_step hw hp
   rw [e2] at hst
   have hnd := Gr.allH_nodup hw hp
   rw [hst, List.nodup_cons] at hnd
   have hpX : s.parent ∉ X.flatMap (allH D) := fun hx => hnd.1 (List.mem_append_left _ hx)
   refine ⟨A ++ s.parent :: X.flatMap (allH D), Y.flatMap (allH D) ++ B, by rw [e1, hst]; simp, fun l => ?_⟩
   obtain ⟨P, g1, g2⟩ := e3 (l ++ (X.flatMap (allH D)).reverse)
   refine ⟨(X.flatMap (allH D)).reverse ++ P, ?_, ?_⟩
   ·rw [List.reverse_append, List.reverse_cons, List.append_assoc, prc_app, prc_no D _ _ _ (fun hx => hpX (List.mem_reverse.1 hx))]
    rw [List.singleton_append, prc_cons, if_pos rfl, show par D s.parent = p.parent by simp [par, hp], g1, List.append_assoc]
   ·rw [Gr.ups_step hl hp]
    have q1 : ((X.flatMap (allH D)).reverse ++ P ++ s.parent :: ups D p.parent).Perm (s.parent :: ((X.flatMap (allH D)).reverse ++ P ++ ups D p.parent)) := List.perm_middle
    refine q1.trans ?_
    have q2 : ((X.flatMap (allH D)).reverse ++ P ++ ups D p.parent).Perm (A ++ X.flatMap (allH D)) := by
     rw [List.append_assoc]
     exact (List.Perm.append (List.reverse_perm _) g2).trans List.perm_append_comm
    exact (q2.cons _).trans List.perm_middle.symm
end Go.Proofs.YtjkgjckkglfokaaGreat
