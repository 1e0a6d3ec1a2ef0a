/- Then, of two. -/
import Derived.Test.YtjkgjckkglfokaaFlat
import Derived.Test.YtjkgjckkglfokaaCnt
namespace Go.Proofs.Ytjkgjckkglfokaa
open Go.RowKit Go.Shelf
set_option linter.unusedVariables false

/-- What tell may be handed: an iterator, or nil. -/
structure IsTell (P : Program) (v : Value) (ys : List Int) (R T : Nat → Prop) (Sq : World → Prop) : Prop where
  sub : ∀ b, T b → R b
  lt : ∀ W, Sq W → ∀ b, R b → b < W.heap.size
  stab : ∀ W W' A, Sq W → Tn A W W' → (∀ b, R b → ¬ A b) → Sq W'
  call : ∀ W l (J Jx : Inv Int) C0 D, Sq W → Stb D J → Stb D Jx → RoundOk P l encI ys J Jx → J [] C0 W → (∀ b, C0 b → ¬ R b) → (∀ b, D b → ¬ T b) → CallsIn Fence.wide 0 P 93 #[v, .func (.yield l) #[] #[]] W (TellP J Jx ys T C0 Sq W)
theorem IsSeq.tell {gf : Nat} {lb : Array Value} {xs : List Int} {R T : Nat → Prop} {Sq : World → Prop} (hs : IsSeq Try.prog gf lb encI xs R T Sq) (eg : ∀ args w, (callFunc gf args).run Try.prog w = .ok (.enter gf args) w) : IsTell Try.prog (.func (.func gf) #[] lb) xs R T Sq :=
  ⟨hs.sub, hs.lt, hs.stab, fun W l J Jx C0 D hq h1 h2 hY h0 hd hdT => tell_any hs eg W l J Jx C0 D hq h1 h2 hY h0 hd hdT⟩
theorem nil_tell : IsTell Try.prog .nilFunc [] (fun _ => False) (fun _ => False) (fun _ => True) :=
  ⟨fun _ h => h, fun _ _ _ h => h.elim, fun _ _ _ _ _ _ => trivial, fun W l J Jx C0 D _ h1 _ _ h0 _ _ => tell_nil W l J Jx C0 D h1 h0⟩

/-- What goes on behind a tell. -/
theorem Way.tell {J Jx : Inv Int} {C0 D T T' R : Nat → Prop} {Sq Sq' : World → Prop} {W X Y : World} {s ys : List Int} {C : Nat → Prop} (h : Way J C0 T R Sq W s X C) {bv : Bool} (ht : Tn (fun b => T' b ∨ C b) X Y) (hT : ∀ b, T' b → T b) {C' : Nat → Prop} (hC : ∀ b, C' b → C b ∨ X.heap.size ≤ b) (hq : Sq Y) {J' : Inv Int} {s' : List Int} (hj : J' s' C' Y) : Way J' C0 T R Sq W s' Y C' :=
  ⟨hj, fun b hb => (hC b hb).elim (h.sub b) (fun h' => .inr (Nat.le_trans h.tn.size h')), h.tn.trans ht (fun i hi h' => h'.elim (fun h' => .inl (hT _ h')) (fun h' => (h.sub i h').elim .inr (fun h' => by omega))), hq⟩

set_option maxRecDepth 100000 in
set_option maxHeartbeats 2000000 in
theorem then_seq {v1 v2 : Value} {xs ys : List Int} {R1 T1 R2 T2 : Nat → Prop} {S1 S2 : World → Prop} (t1 : IsTell Try.prog v1 xs R1 T1 S1) (t2 : IsTell Try.prog v2 ys R2 T2 S2) {ob g c : Nat} {cs : Array Value} (hv1 : cs[0]? = some v1) (hv2 : cs[1]? = some v2) (h1 : ¬ R1 ob ∧ ¬ R1 g) (h2 : ¬ R2 ob ∧ ¬ R2 g) (h12 : ∀ b, R2 b → ¬ T1 b) (h21 : ∀ b, R1 b → ¬ T2 b) :
    IsSeq Try.prog 94 #[.pointer (some ⟨ob, 0, none⟩)] encI (xs ++ ys) (fun b => R1 b ∨ R2 b ∨ b = ob ∨ b = g) (fun b => T1 b ∨ T2 b) (fun W => S1 W ∧ S2 W ∧ IsC W ob #[.slice (some ⟨g, 0, none⟩) 2 c] ∧ IsC W g cs) := by
  refine ⟨fun b hb => hb.elim (fun h => .inl (t1.sub b h)) (fun h => .inr (.inl (t2.sub b h))), fun W h b hb => ?_, fun W W' A h ht hA => ⟨t1.stab _ _ _ h.1 ht (fun b hb => hA b (.inl hb)), t2.stab _ _ _ h.2.1 ht (fun b hb => hA b (.inr (.inl hb))), h.2.2.1.tn ht (hA _ (.inr (.inr (.inl rfl)))), h.2.2.2.tn ht (hA _ (.inr (.inr (.inr rfl))))⟩, ?_⟩
  · rcases hb with hb | hb | rfl | rfl
    · exact t1.lt _ h.1 b hb
    · exact t2.lt _ h.2.1 b hb
    · exact h.2.2.1.lt
    · exact h.2.2.2.lt
  · intro W l J Jx C0 D hq stJ stJx hY h0 hd hdT
    obtain ⟨Sq, hSq⟩ : ∃ Sq : World → Prop, Sq = fun W => S1 W ∧ S2 W ∧ IsC W ob #[.slice (some ⟨g, 0, none⟩) 2 c] ∧ IsC W g cs := ⟨_, rfl⟩
    have HSq : Hid (Sq = fun W => S1 W ∧ S2 W ∧ IsC W ob #[.slice (some ⟨g, 0, none⟩) 2 c] ∧ IsC W g cs) := hSq
    have hq' : Sq W := by rw [hSq]; exact hq
    have hlt : ∀ b, (R1 b ∨ R2 b ∨ b = ob ∨ b = g) → b < W.heap.size := fun b hb => by
      rcases hb with hb | hb | rfl | rfl
      · exact t1.lt _ hq.1 b hb
      · exact t2.lt _ hq.2.1 b hb
      · exact hq.2.2.1.lt
      · exact hq.2.2.2.lt
    have HLT : Hid (∀ b, (R1 b ∨ R2 b ∨ b = ob ∨ b = g) → b < W.heap.size) := hlt
    have HA : Hid (IsTell Try.prog v1 xs R1 T1 S1 ∧ IsTell Try.prog v2 ys R2 T2 S2) := ⟨t1, t2⟩
    have HN : Hid ((¬ R1 ob ∧ ¬ R1 g) ∧ (¬ R2 ob ∧ ¬ R2 g) ∧ (∀ b, R2 b → ¬ T1 b) ∧ (∀ b, R1 b → ¬ T2 b)) := ⟨h1, h2, h12, h21⟩
    have HY : Hid (RoundOk Try.prog l encI (xs ++ ys) J Jx) := hY
    have HD : Hid (∀ b, C0 b → ¬ (R1 b ∨ R2 b ∨ b = ob ∨ b = g)) := hd
    have HDT : Hid (∀ b, D b → ¬ (T1 b ∨ T2 b)) := hdT
    have HSJ : Hid (Stb D J ∧ Stb D Jx) := ⟨stJ, stJx⟩
    have HW0 : Hid (∃ C, Way J C0 (fun b => T1 b ∨ T2 b) (fun _ => True) Sq W [] W C) := ⟨C0, h0, fun _ h => .inl h, Tn.refl _ _, hq'⟩
    have hc0 : W.cell? ⟨ob, 0, none⟩ = some (.slice (some ⟨g, 0, none⟩) 2 c) := hq.2.2.1.cell 0
    have hn1 : ∀ b w, (Op.unary UnOp.not (.bool b)).run Try.prog w = .ok (.bool (!b)) w := fun b _ => by cases b <;> kernel_rfl
    clear hY hd hdT stJ stJx h0 hq hq' hSq hlt t1 t2 h1 h2 h12 h21
    refine callsIn_of_wp Try.func94 rfl trivial ?_ rfl
    simp only [Try.ntmps94, List.size_toArray, List.length_cons, List.length_nil, Nat.reduceAdd, Nat.reduceSub, Array.replicate_succ, Array.replicate_zero, List.push_toArray, List.append_toArray, List.nil_append, List.cons_append]
    gi_wp2
    gi_loopw [7] (fun i wr => ∃ k : Nat, k ≤ 2 ∧ i = .int .i64 (k : Int) ∧ Hid (∃ C, Way J C0 (fun b => T1 b ∨ T2 b) (fun _ => True) Sq W (if k = 0 then [] else if k = 1 then xs else xs ++ ys) wr C)) (fun i _ => 2 - (intOf i).toNat)
    case atStart => exact ⟨0, by omega, rfl, HW0⟩
    case round =>
      clear HW0
      obtain ⟨k, hk, rfl, HWk⟩ := hrel
      obtain ⟨C, hway⟩ := HWk.out
      have hsq := hway.sq
      rw [HSq.out] at hsq
      have hgl := hsq.2.2.2.lt
      have hCR : ∀ b, C b → ¬ (R1 b ∨ R2 b ∨ b = ob ∨ b = g) := fun b hb hr => (hway.sub b hb).elim (fun h => HD.out b h hr) (fun h => by have := HLT.out b hr; omega)
      by_cases hlt : k < 2
      · obtain ⟨vk, zk, Rk, Tk, Sk, tk, hck, hSk, hRk, hTk, hold, htold, hpx⟩ : ∃ (vk : Value) (zk : List Int) (Rk Tk : Nat → Prop) (Sk : World → Prop), IsTell Try.prog vk zk Rk Tk Sk ∧ wr.cell? ⟨g, k, none⟩ = some vk ∧ Sk wr ∧ (∀ b, Rk b → R1 b ∨ R2 b ∨ b = ob ∨ b = g) ∧ (∀ b, Tk b → T1 b ∨ T2 b) ∧ (∀ Y, Tn (fun b => Tk b ∨ C b) wr Y → Sk Y → Sq Y) ∧ (if k + 1 = 0 then [] else if k + 1 = 1 then xs else xs ++ ys) = (if k = 0 then [] else if k = 1 then xs else xs ++ ys) ++ zk ∧ (if k = 0 then [] else if k = 1 then xs else xs ++ ys) ++ zk <+: xs ++ ys := by
          by_cases hk0 : k = 0
          · subst hk0
            refine ⟨v1, xs, R1, T1, S1, HA.out.1, (hsq.2.2.2.cell 0).trans hv1, hsq.1, fun b h => .inl h, fun b h => .inl h, fun Y ht hs => ?_, by simp, by simp⟩
            rw [HSq.out]
            refine ⟨hs, HA.out.2.stab _ _ _ hsq.2.1 ht (fun b hb h => h.elim (HN.out.2.2.1 b hb) (fun h => hCR b h (.inr (.inl hb)))), hsq.2.2.1.tn ht (fun h => h.elim (fun h => HN.out.1.1 (HA.out.1.sub _ h)) (fun h => hCR _ h (.inr (.inr (.inl rfl))))), hsq.2.2.2.tn ht (fun h => h.elim (fun h => HN.out.1.2 (HA.out.1.sub _ h)) (fun h => hCR _ h (.inr (.inr (.inr rfl)))))⟩
          · obtain rfl : k = 1 := by omega
            refine ⟨v2, ys, R2, T2, S2, HA.out.2, (hsq.2.2.2.cell 1).trans hv2, hsq.2.1, fun b h => .inr (.inl h), fun b h => .inr h, fun Y ht hs => ?_, by simp, by simp⟩
            rw [HSq.out]
            refine ⟨HA.out.1.stab _ _ _ hsq.1 ht (fun b hb h => h.elim (HN.out.2.2.2 b hb) (fun h => hCR b h (.inl hb))), hs, hsq.2.2.1.tn ht (fun h => h.elim (fun h => HN.out.2.1.1 (HA.out.2.sub _ h)) (fun h => hCR _ h (.inr (.inr (.inl rfl))))), hsq.2.2.2.tn ht (fun h => h.elim (fun h => HN.out.2.1.2 (HA.out.2.sub _ h)) (fun h => hCR _ h (.inr (.inr (.inr rfl)))))⟩
        generalize (if k = 0 then ([] : List Int) else if k = 1 then xs else xs ++ ys) = told at *
        have htell := tk.call wr l (Sh J told) (Sh Jx told) C D hSk (Sh.stb HSJ.out.1 _) (Sh.stb HSJ.out.2 _) (Sh.round HY.out (fun s hs => (List.prefix_append_right_inj _ |>.2 hs).trans hpx)) (by show J (told ++ []) C wr; rw [List.append_nil]; exact hway.j) (fun b hb hr => hCR b hb (hRk b hr)) (fun b hb ht => HDT.out b hb (hTk b ht))
        have HWY : Hid (Way J C0 (fun b => T1 b ∨ T2 b) (fun _ => True) Sq W told wr C) := hway
        have HOL : Hid ((∀ b, Tk b → T1 b ∨ T2 b) ∧ ∀ Y, Tn (fun b => Tk b ∨ C b) wr Y → Sk Y → Sq Y) := ⟨hTk, hold⟩
        have HTO : Hid ((if k + 1 = 0 then [] else if k + 1 = 1 then xs else xs ++ ys) = told ++ zk) := htold
        have HPX : Hid (told ++ zk <+: xs ++ ys) := hpx
        have hk1 : (k : Int) < 2 := by omega
        clear hway HWk hsq hCR tk hSk hRk hTk hold htold hpx
        gi_wp2_with fail
        refine ⟨trivial, rfl, htell.mono ?_⟩
        rintro e Y ⟨bv, rfl, q1, q2, C', q3, q4, q5⟩
        cases bv with
        | true =>
          have HG : Hid (∃ C, Way J C0 (fun b => T1 b ∨ T2 b) (fun _ => True) Sq W (if k + 1 = 0 then [] else if k + 1 = 1 then xs else xs ++ ys) Y C) := by
            refine ⟨C', ?_⟩
            rw [HTO.out]
            exact HWY.out.tell (bv := true) (D := D) (Jx := Jx) (Sq' := Sq) (ys := zk) q1 HOL.out.1 q3 (HOL.out.2 Y q1 q2) (q4 rfl)
          clear q1 q2 q3 q4 q5 htell
          gi_wp2
          go_roundw
          case rel => exact ⟨k + 1, by omega, by go_num, HG⟩
          case measure => simp [intOf]; omega
        | false =>
          obtain ⟨s, hs1, hs2⟩ := q5 rfl
          have HG : Hid (Way Jx C0 (fun b => T1 b ∨ T2 b) (fun _ => True) Sq W (told ++ s) Y C') := HWY.out.tell (bv := true) (D := D) (Jx := Jx) (Sq' := Sq) (ys := zk) q1 HOL.out.1 q3 (HOL.out.2 Y q1 q2) hs2
          have HS1 : Hid (told ++ s <+: xs ++ ys) := (List.prefix_append_right_inj _ |>.2 hs1).trans HPX.out
          clear q1 q2 q3 q4 q5 htell hs1 hs2
          gi_wp2
          refine bodyPost_ret (results_none rfl _ _ _) rfl ?_
          exact ⟨⟨_, rfl⟩, HG.out.tn, by have h := HG.out.sq; rw [HSq.out] at h; exact h, C', HG.out.sub, .inr ⟨_, HS1.out, HG.out.j⟩⟩
      · obtain rfl : k = 2 := by omega
        have HWY : Hid (Way J C0 (fun b => T1 b ∨ T2 b) (fun _ => True) Sq W (xs ++ ys) wr C) := hway
        clear hway HWk hsq hCR
        gi_wp2
        go_end0
        exact ⟨⟨_, rfl⟩, HWY.out.tn, by have h := HWY.out.sq; rw [HSq.out] at h; exact h, C, HWY.out.sub, .inl HWY.out.j⟩

end Go.Proofs.Ytjkgjckkglfokaa
