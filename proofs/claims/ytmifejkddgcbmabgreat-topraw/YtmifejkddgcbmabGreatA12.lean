/- The printer's elements. -/
import Derived.Test.YtmifejkddgcbmabGreatA11
import Derived.Deep.DeepCutAuto
namespace Go.Proofs.YtmifejkddgcbmabGreat
open Go.RowKit
set_option linter.unusedVariables false
set_option linter.unusedSimpArgs false

theorem attrsGo_ok : ∀ (l : List (ByteArray × ByteArray)) (prev : Option ByteArray), attrsGo prev l = 0 → ∀ p ∈ l, nameL p.1.data.toList = true ∧ (tans p.2.data.toList).2 = 0
  | [], _, _, p, hp => by simp at hp
  | q :: r, prev, h, p, hp => by
    rw [attrsGo] at h
    split at h
    · omega
    · rename_i h1
      have hn : nameL q.1.data.toList = true := by
        cases hq : nameL q.1.data.toList
        · exact absurd (.inl hq) h1
        · rfl
      split at h
      · rename_i h2
        rcases List.mem_cons.1 hp with rfl | hp
        · exact ⟨hn, h2⟩
        · exact attrsGo_ok r _ h p hp
      · rename_i h2
        exact absurd h h2
theorem nameL_len {l : Bs} (h : nameL l = true) : 1 ≤ l.length ∧ l.length ≤ 32 := by
  unfold nameL at h
  simp only [Bool.and_eq_true, decide_eq_true_eq] at h
  exact h.1.1
/-- What an element that can be has. -/
theorem own_el {α : Type} {t : Nd α} (h : ownE t = 0) (hk : t.kind ≠ 2) : t.kind = 1 ∧ nameL t.name.data.toList = true ∧ t.attrs.length ≤ 32 ∧ attrsGo none t.attrs = 0 ∧ (∀ p ∈ t.attrs, nameL p.1.data.toList = true ∧ (tans p.2.data.toList).2 = 0) ∧ kidsT t = t.kids := by
  unfold ownE at h
  by_cases k1 : t.kind = 1
  · rw [if_pos k1] at h
    cases hn : nameL t.name.data.toList
    · rw [hn] at h; simp at h
    · rw [hn] at h
      simp only [if_true] at h
      unfold attrsE at h
      split at h
      · omega
      · exact ⟨k1, rfl, by omega, h, attrsGo_ok _ _ h, if_pos k1⟩
  · rw [if_neg k1, if_neg hk] at h
    omega

theorem prH_take {nm : ByteArray} {l : List (ByteArray × ByteArray)} {i : Nat} {p : ByteArray × ByteArray} (h : l[i]? = some p) : prH nm (l.take (i + 1)) = prH nm (l.take i) ++ prA p := by
  unfold prH
  rw [List.take_add_one, h]
  simp [List.append_assoc]
theorem prH_split (nm : ByteArray) (l : List (ByteArray × ByteArray)) (i : Nat) : prH nm l = prH nm (l.take i) ++ (l.drop i).flatMap prA := by
  unfold prH
  rw [List.append_assoc, List.append_assoc, List.append_assoc, ← List.flatMap_append, List.take_append_drop]

theorem Prn.put1 {w : World} {B pb : Nat} {v : Value} {l : List UInt8} (h : Prn w B pb v l) (a : ByteArray) (x : Bs) (hx : a.data.toList = x) (hl : l.length ≤ 700000) (ha : a.size ≤ 100) :
    Calls Tryz.prog 56 #[.pointer (some ⟨pb, 0, none⟩), .slice (some ⟨w.heap.size, 0, none⟩) 1 1] (w.alloc (.cells #[.string a] 9)) fun e w' => e = .returned (.tuple #[]) ∧ PrP w B pb v (l ++ x) w' := by
  subst hx
  have := put_new h [a] #[.string a] 1 1 rfl (fun i _ => get1 i) (by simp only [catS, List.flatMap_cons, List.flatMap_nil, List.append_nil, size_list]; omega) (by intro s hs; simp at hs; subst hs; omega) (by omega)
  simpa [catS] using this
theorem Prn.put2 {w : World} {B pb : Nat} {v : Value} {l : List UInt8} (h : Prn w B pb v l) (a b : ByteArray) (x : Bs) (hx : a.data.toList ++ b.data.toList = x) (hl : l.length ≤ 700000) (ha : a.size ≤ 100) (hb : b.size ≤ 100) :
    Calls Tryz.prog 56 #[.pointer (some ⟨pb, 0, none⟩), .slice (some ⟨w.heap.size, 0, none⟩) 2 2] (w.alloc (.cells #[.string a, .string b] 9)) fun e w' => e = .returned (.tuple #[]) ∧ PrP w B pb v (l ++ x) w' := by
  subst hx
  have := put_new h [a, b] #[.string a, .string b] 2 2 rfl (fun i _ => get2 i) (by simp only [catS, List.flatMap_cons, List.flatMap_nil, List.append_nil, List.length_append, size_list]; omega) (by intro s hs; simp at hs; rcases hs with rfl | rfl <;> omega) (by omega)
  simpa [catS] using this
theorem Prn.put3 {w : World} {B pb : Nat} {v : Value} {l : List UInt8} (h : Prn w B pb v l) (a b c : ByteArray) (x : Bs) (hx : a.data.toList ++ (b.data.toList ++ c.data.toList) = x) (hl : l.length ≤ 700000) (ha : a.size ≤ 100) (hb : b.size ≤ 100) (hc : c.size ≤ 100) :
    Calls Tryz.prog 56 #[.pointer (some ⟨pb, 0, none⟩), .slice (some ⟨w.heap.size, 0, none⟩) 3 3] (w.alloc (.cells #[.string a, .string b, .string c] 9)) fun e w' => e = .returned (.tuple #[]) ∧ PrP w B pb v (l ++ x) w' := by
  subst hx
  have := put_new h [a, b, c] #[.string a, .string b, .string c] 3 3 rfl (fun i _ => get3 i) (by simp only [catS, List.flatMap_cons, List.flatMap_nil, List.append_nil, List.length_append, size_list]; omega) (by intro s hs; simp at hs; rcases hs with rfl | rfl | rfl <;> omega) (by omega)
  simpa [catS] using this

theorem cells5' (w : World) (a b c d e : Value) (T : TypeId) : (w.alloc (.cells #[a, b, c, d, e] T)).cell? ⟨w.heap.size, 0, none⟩ = some a ∧ (w.alloc (.cells #[a, b, c, d, e] T)).cell? ⟨w.heap.size, 1, none⟩ = some b ∧ (w.alloc (.cells #[a, b, c, d, e] T)).cell? ⟨w.heap.size, 2, none⟩ = some c ∧ (w.alloc (.cells #[a, b, c, d, e] T)).cell? ⟨w.heap.size, 3, none⟩ = some d ∧ (w.alloc (.cells #[a, b, c, d, e] T)).cell? ⟨w.heap.size, 4, none⟩ = some e := by
  have := (isCells_new w #[a, b, c, d, e] T).cell
  exact ⟨this 0, this 1, this 2, this 3, this 4⟩
theorem cells2' (w : World) (a b : Value) (T : TypeId) : (w.alloc (.cells #[a, b] T)).cell? ⟨w.heap.size, 0, none⟩ = some a ∧ (w.alloc (.cells #[a, b] T)).cell? ⟨w.heap.size, 1, none⟩ = some b := by
  have := (isCells_new w #[a, b] T).cell
  exact ⟨this 0, this 1⟩

set_option maxRecDepth 100000 in
set_option maxHeartbeats 4000000 in
theorem el_pr (n : Nat) (hsib : SibPr n) : ElPr (n + 1) := by
  intro w B pb v l lo u t r hp hT hok hkd hl hr
  obtain ⟨hr0, hown, hkok⟩ := hok
  obtain ⟨hk1, hnm, hal, -, hats, hkT⟩ := own_el hown hkd
  rw [hkT] at hkok
  obtain ⟨aa, ac, ka, kc, rfl, -, hkl, -, -, hat, hkids⟩ := hT
  have hnl := nameL_len hnm
  rw [size_list] at hnl
  have hk2 : ¬ t.kind = 2 := hkd
  have HPT : Hid (prT (n + 1) t = prH t.name t.attrs ++ (if hollowP n t.kids then [47, 62] else [62] ++ prF n t.kids ++ ([60, 47] ++ t.name.data.toList ++ [62]))) := by
    show prT (n + 1) t = _
    show (if t.kind = 2 then _ else _) = _
    rw [if_neg hk2]; rfl
  have hBS : B ≤ w.heap.size := by have := hp.lo; have := hp.lt; omega
  unfold tv
  obtain ⟨w0, hw0⟩ : ∃ w0, w0 = w.alloc (.cells #[.int .i64 t.kind, .string t.name, .slice aa t.attrs.length ac, .string t.text, .slice ka t.kids.length kc] 34) := ⟨_, rfl⟩
  have hp0 : Prn w0 B pb v l := by rw [hw0]; exact hp.alloc _
  obtain ⟨-, c1, c2, -, c4⟩ := cells5' w (.int .i64 t.kind) (.string t.name) (.slice aa t.attrs.length ac) (.string t.text) (.slice ka t.kids.length kc) 34
  rw [← hw0] at c1 c2 c4
  have HX : Hid (¬ PB pb v w.heap.size ∧ w.heap.size < w0.heap.size) := ⟨hp.notNew (Nat.le_refl _), by rw [hw0]; simp⟩
  have HC1 : Hid (w0.cell? ⟨w.heap.size, 1, none⟩ = some (.string t.name)) := c1
  have HC4 : Hid (w0.cell? ⟨w.heap.size, 4, none⟩ = some (.slice ka t.kids.length kc)) := c4
  have HB0 : Hid (Below w.heap.size w w0) := by rw [hw0]; exact (Below.refl _ _).alloc (Nat.le_refl _) _
  have HAT : Hid (AttrsAt w0 lo B aa t.attrs) := hat.of_cells (fun b o _ hb => HB0.out.cell (p := ⟨b, o, none⟩) (show b < w.heap.size by omega))
  have HKA : Hid (Tc.KidsAt w0 lo B n ka t.kids) := Tc.KidsAt.of_cells (fun i k hk => hkids i k hk) (fun b o _ hb => HB0.out.cell (p := ⟨b, o, none⟩) (show b < w.heap.size by omega))
  have HP0 : Hid (Prn w0 B pb v l) := hp0
  have hBS0 : B ≤ w0.heap.size := Nat.le_trans hBS HB0.out.size
  obtain ⟨x1, hx1⟩ : ∃ x1, (⟨#[60]⟩ : ByteArray).data.toList ++ t.name.data.toList = x1 := ⟨_, rfl⟩
  have hput1 := hp0.put2 ⟨#[60]⟩ t.name x1 hx1 (by omega) (by decide) (by omega)
  have HX1 : Hid (x1 = [60] ++ t.name.data.toList ∧ x1.length ≤ 33) := ⟨hx1.symm, by rw [← hx1, List.length_append, size_list t.name]; show 1 + _ ≤ _; omega⟩
  have HATS : Hid (∀ p ∈ t.attrs, nameL p.1.data.toList = true ∧ (tans p.2.data.toList).2 = 0) := hats
  have HKOK : Hid (∀ k ∈ t.kids, okD n (r - 1) k) := hkok
  have HFIN : Hid (∀ w', (∃ l', PrP w0 B pb v l' w' ∧ Prints l (prT (n + 1) t) l' ∧ l'.length ≤ 361000 + 100 * r) → (∃ l', PrP w B pb v l' w' ∧ Prints l (prT (n + 1) t) l' ∧ l'.length ≤ 361000 + 100 * r)) := fun w' ⟨l', h1, h2, h3⟩ => ⟨l', PrP.below HB0.out h1, h2, h3⟩
  have HW0 : Hid (w0 = w.alloc (.cells #[.int .i64 t.kind, .string t.name, .slice aa t.attrs.length ac, .string t.text, .slice ka t.kids.length kc] 34)) := hw0
  clear hx1 hp hp0 hat hkids hkok hown hats hnm hkT hkd hw0 hk1 hk2 c4
  unfold maxK at hkl
  go_enter Tryz.func37, Tryz.ntmps37
  go_upto_region 1 with fail
  rw [← HW0.out]
  clear HW0
  go_wp2_with fail
  refine hput1.mono ?_
  rintro e w1 ⟨rfl, hp1⟩
  have HS1 : Hid (∃ l1, PrP w0 B pb v l1 w1 ∧ l1 = l ++ prH t.name (t.attrs.take 0) ∧ l1.length ≤ 360600) := ⟨_, hp1, by rw [HX1.out.1]; simp [prH], by rw [List.length_append]; have := HX1.out.2; omega⟩
  obtain ⟨v1, p1, t1, q1⟩ := hp1
  have c2' := (t1.blk HX.out.2 HX.out.1 2).trans c2
  clear hput1 p1 t1 q1 c1 c2
  go_wp2
  go_loopw [14] (fun v14 wr => ∃ i : Nat, i ≤ t.attrs.length ∧ v14 = .int .i64 (i : Int) ∧ Hid (∃ l1, PrP w0 B pb v l1 wr ∧ l1 = l ++ prH t.name (t.attrs.take i) ∧ l1.length ≤ 360600)) (fun v14 _ => t.attrs.length - (intOf v14).toNat)
  case atStart => exact ⟨0, by omega, rfl, HS1⟩
  case round =>
    obtain ⟨i, hi, rfl, hs⟩ := hrel
    clear HS1 c2'
    obtain ⟨l1, ⟨v1, p1, t1, q1⟩, he1, hl1⟩ := hs.out
    have HQ : Hid (Turn (PB pb v) w0 wr ∧ ∀ k, v1.ownBlock = some k → v.ownBlock = some k ∨ w0.heap.size ≤ k) := ⟨t1, q1⟩
    by_cases hlt : i < t.attrs.length
    · have u1 : (i : Int) < (t.attrs.length : Int) := by omega
      have u0 : (0 : Int) ≤ (i : Int) := by omega
      obtain ⟨⟨an, av⟩, hpr⟩ : ∃ p, t.attrs[i]? = some p := ⟨_, List.getElem?_eq_getElem hlt⟩
      obtain ⟨b, o, rfl, -, hbl, a0, a1⟩ := HAT.out i _ hpr
      have hbs : b < w0.heap.size := by omega
      have d0 := (t1.blk hbs (HP0.out.notIn hbl) _).trans a0
      have d1 := (t1.blk hbs (HP0.out.notIn hbl) _).trans a1
      obtain ⟨hnA, htA⟩ := HATS.out _ (List.mem_of_getElem? hpr)
      have hnl2 : 1 ≤ an.size ∧ an.size ≤ 32 := by have := nameL_len hnA; rwa [size_list] at this
      have HPH : Hid (prH t.name (t.attrs.take (i + 1)) = prH t.name (t.attrs.take i) ++ prA (an, av)) := prH_take hpr
      have hsz := t1.size
      obtain ⟨w2, hw2⟩ : ∃ w2, w2 = wr.alloc (.cells #[.string an, .string av] 84) := ⟨_, rfl⟩
      have hp2 : Prn w2 B pb v1 l1 := by rw [hw2]; exact p1.alloc _
      obtain ⟨e0, e1⟩ := cells2' wr (.string an) (.string av) 84
      rw [← hw2] at e0 e1
      have HT2 : Hid (Turn (PB pb v) w0 w2) := by rw [hw2]; exact t1.alloc _
      have HY : Hid (¬ PB pb v1 wr.heap.size ∧ wr.heap.size < w2.heap.size) := ⟨p1.notNew (Nat.le_refl _), by rw [hw2]; simp⟩
      have HP2 : Hid (Prn w2 B pb v1 l1) := hp2
      have hfl := full_any hp2
      have HW2 : Hid (w2 = wr.alloc (.cells #[.string an, .string av] 84)) := hw2
      have HE1 : Hid (l1 = l ++ prH t.name (t.attrs.take i)) := he1
      have HD1 : Hid (w2.cell? ⟨wr.heap.size, 1, none⟩ = some (.string av)) := e1
      clear hpr a0 a1 hnA t1 q1 p1 hs hw2 he1 e1 HKA hp2
      go_upto_region 5 with fail
      rw [← HW2.out]
      clear HW2
      by_cases hf : 262144 < l1.length
      · rw [decide_eq_true hf] at hfl
        have HE : Hid (∃ l', PrP w0 B pb v l' w2 ∧ Prints l (prT (n + 1) t) l' ∧ l'.length ≤ 361000 + 100 * r) := by
          refine ⟨l1, PrP.next HT2.out HQ.out.2 (PrP.refl HP2.out), ?_, by omega⟩
          rw [HPT.out, prH_split t.name t.attrs i, List.append_assoc]
          exact Prints.full (.inl HE1.out) hf
        clear d0 d1 e0 htA
        go_wp2_with fail
        refine hfl.mono ?_
        rintro e w3 ⟨rfl, hw3⟩
        obtain rfl := hw3.symm
        go_wp2
        first | go_end0 | refine bodyPost_ret (results_none rfl _ _ _) rfl ?_
        exact ⟨rfl, HFIN.out _ HE.out⟩
      · rw [decide_eq_false hf] at hfl
        obtain ⟨x3, hx3⟩ : ∃ x3, (⟨#[32]⟩ : ByteArray).data.toList ++ (an.data.toList ++ (⟨#[61, 34]⟩ : ByteArray).data.toList) = x3 := ⟨_, rfl⟩
        have HX3 : Hid (x3 = [32] ++ (an.data.toList ++ [61, 34])) := hx3.symm
        have hx3l : x3.length ≤ 35 := by rw [← hx3, List.length_append, List.length_append, size_list an]; show 1 + (_ + 2) ≤ _; omega
        have hput := HP2.out.put3 ⟨#[32]⟩ an ⟨#[61, 34]⟩ x3 hx3 (by omega) (by decide) (by omega) (by decide)
        have HEN : Hid ((eans true av.data.toList).1.length ≤ 98304) := eans_len htA
        have HTA : Hid ((tans av.data.toList).2 = 0) := htA
        clear d0 d1 htA hx3
        go_wp2_with fail
        refine hfl.mono ?_
        rintro e w3 ⟨rfl, hw3⟩
        obtain rfl := hw3.symm
        clear hfl
        go_wp2_with fail
        refine hput.mono ?_
        rintro e w4 ⟨rfl, v4, p4, t4, q4⟩
        have e1 := (t4.blk HY.out.2 HY.out.1 1).trans HD1.out
        have HQ4 : Hid (Turn (PB pb v1) w2 w4 ∧ ∀ k, v4.ownBlock = some k → v1.ownBlock = some k ∨ w2.heap.size ≤ k) := ⟨t4, q4⟩
        have hlen4 : (l1 ++ x3).length ≤ 262144 + 40 := by rw [List.length_append]; omega
        have hw := pwords_any p4 av true HTA.out (by omega)
        clear hput p4 t4 q4 e0
        go_wp2_with fail
        refine hw.mono ?_
        rintro e w5 ⟨rfl, v5, p5, t5, q5⟩
        have HQ5 : Hid (Turn (PB pb v4) w4 w5 ∧ ∀ k, v5.ownBlock = some k → v4.ownBlock = some k ∨ w4.heap.size ≤ k) := ⟨t5, q5⟩
        have hput5 := p5.put1 ⟨#[34]⟩ [34] rfl (by rw [List.length_append]; have := HEN.out; omega) (by decide)
        clear hw p5 t5 q5 e1
        go_wp2_with fail
        refine hput5.mono ?_
        rintro e w6 ⟨rfl, hp6⟩
        have HN : Hid (∃ l1, PrP w0 B pb v l1 w6 ∧ l1 = l ++ prH t.name (t.attrs.take (i + 1)) ∧ l1.length ≤ 360600) := by
          refine ⟨_, PrP.next HT2.out HQ.out.2 (PrP.next HQ4.out.1 HQ4.out.2 (PrP.next HQ5.out.1 HQ5.out.2 hp6)), ?_, ?_⟩
          · rw [HPH.out, ← List.append_assoc l, ← HE1.out, HX3.out]
            simp [prA, List.append_assoc]
          · rw [List.length_append, List.length_append]
            have := HEN.out
            show _ + 1 ≤ _
            omega
        clear hput5 hp6
        go_wp2
        refine ⟨⟨i + 1, by omega, by simp, HN⟩, ?_⟩
        simp [intOf]; omega
    · have u1 : ¬ (i : Int) < (t.attrs.length : Int) := by omega
      have hie : i = t.attrs.length := by omega
      have HE1 : Hid (l1 = l ++ prH t.name t.attrs) := by
        show _ = _
        rw [he1, hie, List.take_length]
      have c4' := (t1.blk HX.out.2 HX.out.1 4).trans HC4.out
      have c1' := (t1.blk HX.out.2 HX.out.1 1).trans HC1.out
      have hsz := t1.size
      have hka1 : Tc.KidsAt wr lo B n ka t.kids := HKA.out.turn t1 hBS0 (fun k _ hk => HP0.out.notIn hk)
      have hBr : B ≤ wr.heap.size := by omega
      have hkaS : Tc.KidsAt wr lo wr.heap.size n ka t.kids := fun i k hk => by
        obtain ⟨b, o, u, g1, g2, g3, g4, g5, g6⟩ := hka1 i k hk
        exact ⟨b, o, u, g1, g2, by omega, g4, g5, g6.mono (Nat.le_refl _) hBr⟩
      have hho := hollow_any n wr lo ka t.kids kc hkaS (by unfold maxK; omega)
      have HKA1 : Hid (Tc.KidsAt wr lo B n ka t.kids) := hka1
      have HP1 : Hid (Prn wr B pb v1 l1) := p1
      have HC : Hid (wr.cell? ⟨w.heap.size, 4, none⟩ = some (.slice ka t.kids.length kc) ∧ wr.cell? ⟨w.heap.size, 1, none⟩ = some (.string t.name)) := ⟨c4', c1'⟩
      have HXr : Hid (w.heap.size < wr.heap.size) := by have := HX.out.2; show _ < _; omega
      have HXv : Hid (¬ PB pb v1 w.heap.size) := fun hb => by
        rcases hb with hb | hb
        · exact HX.out.1 (.inl hb)
        · rcases HQ.out.2 _ hb with hb | hb
          · exact HX.out.1 (.inr hb)
          · have := HX.out.2; omega
      clear he1 hie hka1 hkaS t1 q1 p1 hs HAT HATS c1'
      cases hh : hollowP n t.kids
      · rw [hh] at hho
        have HP9 : Hid (prT (n + 1) t = prH t.name t.attrs ++ ([62] ++ prF n t.kids ++ ([60, 47] ++ t.name.data.toList ++ [62]))) := by show _ = _; rw [HPT.out, hh]; simp
        clear hh
        go_wp2_with fail
        refine hho.mono ?_
        rintro e w2 ⟨rfl, hb2⟩
        have hp2 := HP1.out.below hb2
        have HB2 : Hid (Below wr.heap.size wr w2) := hb2
        have hput := hp2.put1 ⟨#[62]⟩ [62] rfl (by omega) (by decide)
        have hs2 := hb2.size
        clear hho hp2 hb2 c4'
        go_wp2_with fail
        refine hput.mono ?_
        rintro e w3 ⟨rfl, v3, p3, t3, q3⟩
        have HQ3 : Hid (Turn (PB pb v1) w2 w3 ∧ ∀ k, v3.ownBlock = some k → v1.ownBlock = some k ∨ w2.heap.size ≤ k) := ⟨t3, q3⟩
        have hs3 := t3.size
        have hxw2 : w.heap.size < w2.heap.size := by have := HXr.out; omega
        have f4 := (t3.blk hxw2 HXv.out 4).trans ((HB2.out.cell (p := ⟨w.heap.size, 4, none⟩) HXr.out).trans HC.out.1)
        have hka3 : Tc.KidsAt w3 lo B n ka t.kids := (HKA1.out.of_cells (fun b o _ hb => HB2.out.cell (p := ⟨b, o, none⟩) (show b < wr.heap.size by omega))).turn t3 (by omega) (fun k _ hk => HP1.out.notIn hk)
        have hsb := hsib w3 B pb v3 _ lo ka t.kids kc (r - 1) p3 hka3 (by unfold maxK; omega) HKOK.out (by rw [List.length_append]; show _ + 1 ≤ _; omega) (by omega)
        have HXv3 : Hid (¬ PB pb v3 w.heap.size) := fun hb => by
          rcases hb with hb | hb
          · exact HXv.out (.inl hb)
          · rcases HQ3.out.2 _ hb with hb | hb
            · exact HXv.out (.inr hb)
            · omega
        have HF1 : Hid (w3.cell? ⟨w.heap.size, 1, none⟩ = some (.string t.name)) := (t3.blk hxw2 HXv.out 1).trans ((HB2.out.cell (p := ⟨w.heap.size, 1, none⟩) HXr.out).trans HC.out.2)
        clear hput p3 t3 q3 hka3
        go_wp2_with fail
        refine hsb.mono ?_
        rintro e w4 ⟨rfl, l4, ⟨v4, p4, t4, q4⟩, hpr4, hl4⟩
        have HQ4 : Hid (Turn (PB pb v3) w3 w4 ∧ ∀ k, v4.ownBlock = some k → v3.ownBlock = some k ∨ w3.heap.size ≤ k) := ⟨t4, q4⟩
        have f1 := (t4.blk (by omega) HXv3.out 1).trans HF1.out
        obtain ⟨x5, hx5⟩ : ∃ x5, (⟨#[60, 47]⟩ : ByteArray).data.toList ++ (t.name.data.toList ++ (⟨#[62]⟩ : ByteArray).data.toList) = x5 := ⟨_, rfl⟩
        have HX5 : Hid (x5 = [60, 47] ++ (t.name.data.toList ++ [62])) := hx5.symm
        have hx5l : x5.length ≤ 35 := by rw [← hx5, List.length_append, List.length_append, size_list t.name]; show 2 + (_ + 1) ≤ _; omega
        have hput4 := p4.put3 ⟨#[60, 47]⟩ t.name ⟨#[62]⟩ x5 hx5 (by omega) (by decide) (by omega) (by decide)
        have HPR4 : Hid (Prints (l1 ++ [62]) (prF n t.kids) l4) := hpr4
        clear hsb p4 t4 q4 f4 hpr4 hx5
        go_wp2_with fail
        refine hput4.mono ?_
        rintro e w5 ⟨rfl, hp5⟩
        have HE : Hid (∃ l', PrP w0 B pb v l' w5 ∧ Prints l (prT (n + 1) t) l' ∧ l'.length ≤ 361000 + 100 * r) := by
          refine ⟨_, PrP.next HQ.out.1 HQ.out.2 (PrP.below HB2.out (PrP.next HQ3.out.1 HQ3.out.2 (PrP.next HQ4.out.1 HQ4.out.2 hp5))), ?_, ?_⟩
          · rw [HP9.out]
            refine Prints.trans HE1.out ?_
            rcases HPR4.out with h | h
            · left
              rw [h, HX5.out]
              simp [List.append_assoc]
            · right
              have h5 := congrArg List.length HX5.out
              simp only [List.length_append] at h h5 ⊢
              simp only [List.length_cons, List.length_nil] at h h5 ⊢
              omega
          · rw [List.length_append]
            omega
        clear hput4 hp5
        go_wp2
        first | go_end0 | refine bodyPost_ret (results_none rfl _ _ _) rfl ?_
        exact ⟨rfl, HFIN.out _ HE.out⟩
      · rw [hh] at hho
        have HP9 : Hid (prT (n + 1) t = prH t.name t.attrs ++ [47, 62]) := by show _ = _; rw [HPT.out, hh]; simp
        clear hh
        go_wp2_with fail
        refine hho.mono ?_
        rintro e w2 ⟨rfl, hb2⟩
        have hp2 := HP1.out.below hb2
        have HB2 : Hid (Below wr.heap.size wr w2) := hb2
        have hput := hp2.put1 ⟨#[47, 62]⟩ [47, 62] rfl (by omega) (by decide)
        clear hho hp2 hb2 c4'
        go_wp2_with fail
        refine hput.mono ?_
        rintro e w3 ⟨rfl, hp3⟩
        have HE : Hid (∃ l', PrP w0 B pb v l' w3 ∧ Prints l (prT (n + 1) t) l' ∧ l'.length ≤ 361000 + 100 * r) := by
          refine ⟨_, PrP.next HQ.out.1 HQ.out.2 (PrP.below HB2.out hp3), ?_, ?_⟩
          · rw [HP9.out]
            exact Prints.trans HE1.out (.inl rfl)
          · rw [List.length_append]; show _ + 2 ≤ _; omega
        clear hput hp3
        go_wp2
        first | go_end0 | refine bodyPost_ret (results_none rfl _ _ _) rfl ?_
        exact ⟨rfl, HFIN.out _ HE.out⟩

theorem sib_pr_all : ∀ n, SibPr n
  | 0 => sib_pr 0 (fun _ _ _ _ _ _ _ _ _ _ h => h.elim)
  | n + 1 => sib_pr (n + 1) (el_pr n (sib_pr_all n))

end Go.Proofs.YtmifejkddgcbmabGreat
