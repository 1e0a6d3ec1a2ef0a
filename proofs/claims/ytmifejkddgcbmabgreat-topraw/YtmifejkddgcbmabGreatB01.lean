/- The document's Forests of two forests that are the same. -/
import Derived.Test.YtmifejkddgcbmabGreatA30
namespace Go.Proofs.YtmifejkddgcbmabGreat
open Go.RowKit
set_option linter.unusedVariables false
set_option linter.unusedSimpArgs false
attribute [local go_sem] Bel.cell Bel.fz

set_option maxRecDepth 100000 in
set_option maxHeartbeats 2000000 in
theorem rattrs_same (w : World) (lo lo2 : Nat) (a a2 : Option Addr) (l : List Att) (c c2 : Nat) (h : AttrsAt w lo w.heap.size a l) (h2 : AttrsAt w lo2 w.heap.size a2 l) (hl : l.length ≤ maxA) :
    Calls Tryz.prog 31 #[.slice a l.length c, .slice a2 l.length c2] w fun e w' => e = .returned (.bool true) ∧ Below w.heap.size w w' := by
  have HA : Hid (AttrsAt w lo w.heap.size a l) := h
  have HA2 : Hid (AttrsAt w lo2 w.heap.size a2 l) := h2
  unfold maxA at hl
  have n1 : ((l.length : Int) != (l.length : Int)) = false := by simp
  clear h h2
  go_enter Tryz.func31, Tryz.ntmps31
  go_wp2
  go_loopw [5] (fun v5 wr => ∃ i : Nat, i ≤ l.length ∧ v5 = .int .i64 (i : Int) ∧ Hid (Below w.heap.size w wr)) (fun v5 _ => l.length - (intOf v5).toNat)
  case atStart => exact ⟨0, by omega, rfl, Below.refl _ _⟩
  case round =>
    obtain ⟨i, hi, rfl, hb⟩ := hrel
    by_cases hlt : i < l.length
    · have t1 : (i : Int) < (l.length : Int) := by omega
      have t0 : (0 : Int) ≤ (i : Int) := by omega
      obtain ⟨p, hp⟩ : ∃ p, l[i]? = some p := ⟨_, List.getElem?_eq_getElem hlt⟩
      obtain ⟨b, o, rfl, -, hbl, c0, c1⟩ := HA.out i p hp
      obtain ⟨b2, o2, rfl, -, hbl2, e0, e1⟩ := HA2.out i p hp
      have d0 := (hb.out.cell (p := ⟨b, o + i * 2, none⟩) hbl).trans c0
      have d1 := (hb.out.cell (p := ⟨b, o + i * 2 + 1, none⟩) hbl).trans c1
      have f0 := (hb.out.cell (p := ⟨b2, o2 + i * 2, none⟩) hbl2).trans e0
      have f1 := (hb.out.cell (p := ⟨b2, o2 + i * 2 + 1, none⟩) hbl2).trans e1
      have n5 : (p.1.toList == p.1.toList) = true := by simp
      have n6 : (p.2.toList == p.2.toList) = true := by simp
      clear hp c0 c1 e0 e1
      go_wp2
      go_region
      go_wp2
      refine ⟨⟨i + 1, by omega, by simp, hb.out.drew⟩, ?_⟩
      simp [intOf]; omega
    · have t1 : ¬ (i : Int) < (l.length : Int) := by omega
      go_wp2
      go_ret
      exact ⟨rfl, hb.out⟩

def ForesAll (n : Nat) : Prop := ∀ (w : World) (lo lo2 : Nat) (a a2 : Option Addr) (L : List (T n)) (c c2 : Nat), Tc.KidsAt w lo w.heap.size n a L → Tc.KidsAt w lo2 w.heap.size n a2 L → L.length ≤ maxK →
  Calls Tryz.prog 9 #[.slice a L.length c, .slice a2 L.length c2] w fun e w' => e = .returned (.bool true) ∧ Below w.heap.size w w'

set_option maxRecDepth 100000 in
set_option maxHeartbeats 2000000 in
/-- Two trees that are the same. -/
theorem rsame_any (n : Nat) (ih : ForesAll n) (w : World) (lo lo2 : Nat) (v v2 : Array Value) (k : T (n + 1)) (h : TreeAt w lo w.heap.size (n + 1) v k) (h2 : TreeAt w lo2 w.heap.size (n + 1) v2 k) :
    Calls Tryz.prog 18 #[.agg v, .agg v2] w fun e w' => e = .returned (.bool true) ∧ Below w.heap.size w w' := by
  obtain ⟨a, ac, ka, kc, rfl, hal, hkl, -, -, hA, hK⟩ := h
  obtain ⟨a2, ac2, ka2, kc2, rfl, -, -, -, -, hA2, hK2⟩ := h2
  unfold tv
  obtain ⟨w0, hw0⟩ : ∃ w0, w0 = (w.alloc (.cells #[.int .i64 k.kind, .string k.name, .slice a k.attrs.length ac, .string k.text, .slice ka k.kids.length kc] 34)).alloc (.cells #[.int .i64 k.kind, .string k.name, .slice a2 k.attrs.length ac2, .string k.text, .slice ka2 k.kids.length kc2] 34) := ⟨_, rfl⟩
  have HB0 : Hid (Below w.heap.size w w0) := by rw [hw0]; exact ((Below.refl _ _).alloc (Nat.le_refl _) _).alloc (by simp) _
  have hKA : Tc.KidsAt w lo w.heap.size n ka k.kids := hK
  have hKA2 : Tc.KidsAt w lo2 w.heap.size n ka2 k.kids := hK2
  have hat := fun W (hW : Below w.heap.size w W) => rattrs_same W lo lo2 a a2 k.attrs ac ac2 (hA.after' hW) (hA2.after' hW) hal
  have hfo := fun W (hW : Below w.heap.size w W) => ih W lo lo2 ka ka2 k.kids kc kc2 (hKA.after hW) (hKA2.after hW) hkl
  have HAT : Hid _ := hat
  have HFO : Hid _ := hfo
  have b1 : ∀ j u, (#[Value.int .i64 k.kind, .string k.name, .slice a k.attrs.length ac, .string k.text, .slice ka k.kids.length kc] : Array Value)[j]? = some u → w0.cell? ⟨w.heap.size, j, none⟩ = some u := fun j u hu => by
    rw [hw0, ((isCells_new w _ 34).alloc _).cell]; exact hu
  have b2 : ∀ j u, (#[Value.int .i64 k.kind, .string k.name, .slice a2 k.attrs.length ac2, .string k.text, .slice ka2 k.kids.length kc2] : Array Value)[j]? = some u → w0.cell? ⟨w.heap.size + 1, j, none⟩ = some u := fun j u hu => by
    have := (isCells_new (w.alloc (.cells #[.int .i64 k.kind, .string k.name, .slice a k.attrs.length ac, .string k.text, .slice ka k.kids.length kc] 34)) #[.int .i64 k.kind, .string k.name, .slice a2 k.attrs.length ac2, .string k.text, .slice ka2 k.kids.length kc2] 34).cell j
    rw [show (w.alloc (.cells #[.int .i64 k.kind, .string k.name, .slice a k.attrs.length ac, .string k.text, .slice ka k.kids.length kc] 34)).heap.size = w.heap.size + 1 by simp] at this
    rw [hw0, this]; exact hu
  have p0 := b1 0 _ rfl
  have p1 := b1 1 _ rfl
  have p2 := b1 2 _ rfl
  have p3 := b1 3 _ rfl
  have p4 := b1 4 _ rfl
  have q0 := b2 0 _ rfl
  have q1 := b2 1 _ rfl
  have q2 := b2 2 _ rfl
  have q3 := b2 3 _ rfl
  have q4 := b2 4 _ rfl
  have hlt : w.heap.size + 1 < w0.heap.size := by rw [hw0]; simp
  have HW0 : Hid (w0 = (w.alloc (.cells #[.int .i64 k.kind, .string k.name, .slice a k.attrs.length ac, .string k.text, .slice ka k.kids.length kc] 34)).alloc (.cells #[.int .i64 k.kind, .string k.name, .slice a2 k.attrs.length ac2, .string k.text, .slice ka2 k.kids.length kc2] 34)) := hw0
  have n1 : (k.kind != k.kind) = false := by simp
  have n2 : (k.name.toList == k.name.toList) = true := by simp
  have n3 : (k.text.toList == k.text.toList) = true := by simp
  clear hw0 b1 b2 hat hfo hKA hKA2 hA hA2 hK hK2 hal hkl
  go_enter Tryz.func18, Tryz.ntmps18
  go_upto_region 1 with fail
  rw [← HW0.out]
  clear HW0
  by_cases ek : k.kind = 2
  · rw [ek] at p0 q0 n1
    clear ek
    go_wp2
    go_ret
    exact ⟨rfl, HB0.out⟩
  · have ek' : (k.kind == 2) = false := beq_eq_false_iff_ne.2 ek
    clear ek
    have hat := HAT.out w0 HB0.out
    go_wp2_with fail
    refine hat.mono ?_
    rintro e w1 ⟨rfl, hb1⟩
    have r4 := (hb1.cell (p := ⟨w.heap.size, 4, none⟩) (show w.heap.size < _ by omega)).trans p4
    have s4 := (hb1.cell (p := ⟨w.heap.size + 1, 4, none⟩) hlt).trans q4
    have HB1 : Hid (Below w.heap.size w w1) := HB0.out.trans (hb1.mono HB0.out.size)
    have hfo := HFO.out w1 HB1.out
    have hs1 := HB1.out.size
    clear hat hb1 p0 p1 p2 p3 p4 q0 q1 q2 q3 q4
    go_wp2_with fail
    refine hfo.mono ?_
    rintro e w2 ⟨rfl, hb2⟩
    have HB2 : Hid (Below w.heap.size w w2) := HB1.out.trans (hb2.mono hs1)
    clear hfo hb2
    go_wp2
    go_ret
    exact ⟨rfl, HB2.out⟩

set_option maxRecDepth 100000 in
set_option maxHeartbeats 2000000 in
theorem fores_zero : ForesAll 0 := by
  intro w lo lo2 a a2 L c c2 h h2 hl
  have hL : L = [] := by
    cases L with
    | nil => rfl
    | cons t r => exact (t : Empty).elim
  subst hL
  clear h h2 hl
  show Calls Tryz.prog 9 #[.slice a 0 c, .slice a2 0 c2] w _
  go_enter Tryz.func9, Tryz.ntmps9
  go_wp2
  go_loopw [5] (fun v5 wr => v5 = .int .i64 0 ∧ wr = w) (fun _ _ => 0)
  case atStart => exact ⟨rfl, rfl⟩
  case round =>
    obtain ⟨rfl, hw⟩ := hrel
    obtain rfl := hw.symm
    go_wp2
    go_ret
    exact ⟨rfl, Below.refl _ _⟩

set_option maxRecDepth 100000 in
set_option maxHeartbeats 4000000 in
theorem fores_succ (n : Nat) (ih : ForesAll n) : ForesAll (n + 1) := by
  intro w lo lo2 a a2 L c c2 h h2 hl
  have HK : Hid (Tc.KidsAt w lo w.heap.size (n + 1) a L) := h
  have HK2 : Hid (Tc.KidsAt w lo2 w.heap.size (n + 1) a2 L) := h2
  unfold maxK at hl
  have n1 : ((L.length : Int) != (L.length : Int)) = false := by simp
  clear h h2
  go_enter Tryz.func9, Tryz.ntmps9
  go_wp2
  go_loopw [5] (fun v5 wr => ∃ i : Nat, i ≤ L.length ∧ v5 = .int .i64 (i : Int) ∧ Hid (Below w.heap.size w wr)) (fun v5 _ => L.length - (intOf v5).toNat)
  case atStart => exact ⟨0, by omega, rfl, Below.refl _ _⟩
  case round =>
    obtain ⟨i, hi, rfl, hb⟩ := hrel
    have hs := hb.out.size
    by_cases hlt : i < L.length
    · have t1 : (i : Int) < (L.length : Int) := by omega
      have t0 : (0 : Int) ≤ (i : Int) := by omega
      obtain ⟨k, hk⟩ : ∃ k, L[i]? = some k := ⟨_, List.getElem?_eq_getElem hlt⟩
      have hKr : Tc.KidsAt wr lo wr.heap.size (n + 1) a L := HK.out.after hb.out
      have hKr2 : Tc.KidsAt wr lo2 wr.heap.size (n + 1) a2 L := HK2.out.after hb.out
      obtain ⟨b, o, kk, nm, aa, al, ac, tx, ka, kl, kc, rfl, -, hbl, c0, c1, c2', c3, c4, hT⟩ := hKr.get hk
      obtain ⟨b2, o2, kk2, nm2, aa2, al2, ac2, tx2, ka2, kl2, kc2, rfl, -, hbl2, g0, g1, g2, g3, g4, hT2⟩ := hKr2.get hk
      have hsn := fun W (hW : Below wr.heap.size wr W) => rsame_any n ih W lo lo2 _ _ k (hT.after hW) (hT2.after hW)
      clear hk hKr hKr2
      go_wp2
      refine wp_region_bel (by kernel_rfl) (by kernel_rfl) ?_
      intro hne
      repeat go_big_quiet_step ((go_at_call 18; exact Calls.bel_of (hsn _ (Bel.h _))))
      refine wpQuiet_nil ?_
      rintro _ ⟨u, rfl⟩
      have HBU : Hid (Below w.heap.size w u.w) := hb.out.trans (u.h.mono hs)
      clear hsn c0 c1 c2' c3 c4 g0 g1 g2 g3 g4 hT hT2
      go_wp2
      refine ⟨⟨i + 1, by omega, by simp, HBU⟩, ?_⟩
      simp [intOf]; omega
    · have t1 : ¬ (i : Int) < (L.length : Int) := by omega
      go_wp2
      go_ret
      exact ⟨rfl, hb.out⟩
theorem fores_all : ∀ n, ForesAll n
  | 0 => fores_zero
  | n + 1 => fores_succ n (fores_all n)

end Go.Proofs.YtmifejkddgcbmabGreat

/- A fault has a name: what is told of it is never OK. -/
namespace Go.Proofs.YtmifejkddgcbmabGreat
open Go.RowKit
set_option linter.unusedVariables false
set_option linter.unusedSimpArgs false

theorem letter_ne {l : Bs} {s : St} {p : Nat} {e : Int} (h : letterP l s = .inr (p, e)) : e ≠ 0 := by
  unfold letterP at h
  split at h
  · cases h; decide
  · split at h
    · split at h
      · simp at h
      · rename_i h0; cases h; exact h0
    · split at h
      · simp at h
      · cases h; decide
theorem begin_nz {s : St} {a p : Nat} {e : Int} (h : beginP s a = .inr (p, e)) : e ≠ 0 := by
  unfold beginP at h
  split at h
  · cases h; decide
  · simp at h
theorem grow_ne {s : St} {out x : Bs} {a p : Nat} {e : Int} (h : growP s out x a = .inr (p, e)) : e ≠ 0 := by
  unfold growP at h
  split at h
  · cases h; decide
  · simp at h
theorem put_ne {s : St} {out x : Bs} {a p : Nat} {e : Int} (h : putP s out x a = .inr (p, e)) : e ≠ 0 := by
  unfold putP at h
  by_cases ho : out = []
  · rw [if_pos ho] at h
    cases hb : beginP s a with
    | inl q => obtain ⟨u, s1⟩ := q; rw [hb] at h; exact grow_ne h
    | inr q => obtain ⟨p2, e2⟩ := q; rw [hb] at h; cases h; exact begin_nz hb
  · rw [if_neg ho] at h
    exact grow_ne h
theorem puts_ne : ∀ (x : Bs) (s : St) (out : Bs) (a p : Nat) (e : Int), putsP s out x a = .inr (p, e) → e ≠ 0
  | [], s, out, a, p, e, h => by rw [putsP] at h; simp at h
  | b :: r, s, out, a, p, e, h => by
    rw [putsP] at h
    cases hp : putP s out [b] a with
    | inr q => obtain ⟨p2, e2⟩ := q; rw [hp] at h; cases h; exact put_ne hp
    | inl q => obtain ⟨o2, s2⟩ := q; rw [hp] at h; exact puts_ne r s2 o2 (a + 1) p e h
theorem rawF_ne : ∀ (k : Nat) (s : St) (out x : Bs) (a p : Nat) (e : Int), rawF k s out x a = .inr (p, e) → e ≠ 0
  | 0, s, out, x, a, p, e, h => by rw [rawF] at h; simp at h
  | k + 1, s, out, x, a, p, e, h => by
    rw [rawF] at h
    by_cases hx : x = []
    · rw [if_pos hx] at h; simp at h
    · rw [if_neg hx] at h
      cases hf : first x with
      | none => rw [hf] at h; cases h; decide
      | some q =>
        obtain ⟨r, n⟩ := q
        rw [hf] at h
        simp only at h
        cases hp : putsP s out (x.take n) a with
        | inr q => obtain ⟨p2, e2⟩ := q; rw [hp] at h; cases h; exact puts_ne _ _ _ _ _ _ hp
        | inl q => obtain ⟨o2, s2⟩ := q; rw [hp] at h; exact rawF_ne k s2 o2 (x.drop n) (a + n) p e h
theorem skip_ne {l : Bs} {n : Nat} {q : Bs} {s : St} {p : Nat} {e : Int} (h : skipP l n q s = .inr (p, e)) : e ≠ 0 := by
  unfold skipP at h
  split at h
  · cases h; decide
  · simp at h
theorem tag_ne {l : Bs} {s : St} {p : Nat} {e : Int} (h : tagP l s = .inr (p, e)) : e ≠ 0 := by
  unfold tagP at h
  split at h
  · cases h; decide
  · split at h
    · simp at h
    · split at h
      · split at h
        · simp at h
        · cases h; decide
      · cases h; decide
theorem words_ne {l : Bs} : ∀ (k : Nat) (s : St) (out : Bs) (p : Nat) (e : Int), wordsF l k s out = .inr (p, e) → e ≠ 0
  | 0, s, out, p, e, h => by rw [wordsF] at h; simp at h
  | k + 1, s, out, p, e, h => by
    rw [wordsF] at h
    cases hg : l[s.at_]? with
    | none => rw [hg] at h; simp at h
    | some b =>
      rw [hg] at h
      simp only at h
      split at h
      · cases hlt : letterP l s with
        | inr q => obtain ⟨p2, e2⟩ := q; rw [hlt] at h; cases h; exact letter_ne hlt
        | inl q =>
          obtain ⟨x, s2⟩ := q
          rw [hlt] at h
          simp only at h
          cases hp : putP s2 out x s.at_ with
          | inr q => obtain ⟨p2, e2⟩ := q; rw [hp] at h; cases h; exact put_ne hp
          | inl q => obtain ⟨o3, s3⟩ := q; rw [hp] at h; exact words_ne k s3 o3 p e h
      · split at h
        · cases hsk : skipP l 4 [45, 45, 62] s with
          | inr q => obtain ⟨p2, e2⟩ := q; rw [hsk] at h; cases h; exact skip_ne hsk
          | inl q => obtain ⟨x, s2⟩ := q; rw [hsk] at h; exact words_ne k _ out p e h
        · split at h
          · cases hsk : skipP l 2 [63, 62] s with
            | inr q => obtain ⟨p2, e2⟩ := q; rw [hsk] at h; cases h; exact skip_ne hsk
            | inl q => obtain ⟨x, s2⟩ := q; rw [hsk] at h; exact words_ne k _ out p e h
          · split at h
            · cases hr : rawP l s out with
              | inr q =>
                obtain ⟨p2, e2⟩ := q
                rw [hr] at h
                cases h
                unfold rawP at hr
                cases hsk : skipP l 9 [93, 93, 62] s with
                | inr q => obtain ⟨p3, e3⟩ := q; rw [hsk] at hr; cases hr; exact skip_ne hsk
                | inl q => obtain ⟨x, s3⟩ := q; rw [hsk] at hr; exact rawF_ne _ _ _ _ _ _ _ hr
              | inl q => obtain ⟨o2, s2⟩ := q; rw [hr] at h; exact words_ne k s2 o2 p e h
            · cases ht : tagP l s with
              | inr q => obtain ⟨p2, e2⟩ := q; rw [ht] at h; cases h; exact tag_ne ht
              | inl q => obtain ⟨u, s2⟩ := q; rw [ht] at h; simp at h
theorem valueF_ne {l : Bs} {q : UInt8} : ∀ (k : Nat) (s : St) (out : Bs) (p : Nat) (e : Int), valueF l q k s out = .inr (p, e) → e ≠ 0
  | 0, s, out, p, e, h => by rw [valueF] at h; simp at h
  | k + 1, s, out, p, e, h => by
    rw [valueF] at h
    cases hg : l[s.at_]? with
    | none => rw [hg] at h; cases h; decide
    | some b =>
      rw [hg] at h
      simp only at h
      split at h
      · simp at h
      · split at h
        · cases h; decide
        · cases hlt : letterP l s with
          | inr q => obtain ⟨p2, e2⟩ := q; rw [hlt] at h; cases h; exact letter_ne hlt
          | inl q2 =>
            obtain ⟨x, s2⟩ := q2
            rw [hlt] at h
            simp only at h
            cases hp : growP s2 out x s.at_ with
            | inr q => obtain ⟨p2, e2⟩ := q; rw [hp] at h; cases h; exact grow_ne hp
            | inl q3 => obtain ⟨o3, s3⟩ := q3; rw [hp] at h; exact valueF_ne k s3 o3 p e h
theorem valueP_ne {l : Bs} {s : St} {p : Nat} {e : Int} (h : valueP l s = .inr (p, e)) : e ≠ 0 := by
  unfold valueP at h
  split at h
  · cases h; decide
  · split at h
    · exact valueF_ne _ _ _ _ _ h
    · cases h; decide
theorem name_ne {l : Bs} {s : St} {p : Nat} {e : Int} (h : nameP l s = .inr (p, e)) : e ≠ 0 := by
  unfold nameP at h
  split at h
  · cases h; decide
  · split at h
    · split at h
      · simp at h
      · cases h; decide
    · cases h; decide
theorem expect_ne {l : Bs} {c : UInt8} {s : St} {p : Nat} {e : Int} (h : expectP l c s = .inr (p, e)) : e ≠ 0 := by
  unfold expectP at h
  split at h
  · split at h
    · simp at h
    · cases h; decide
  · cases h; decide
theorem attrP_ne {l : Bs} {L : List Att} {s : St} {p : Nat} {e : Int} (h : attrP l L s = .inr (p, e)) : e ≠ 0 := by
  unfold attrP at h
  cases hn : nameP l s with
  | inr q => obtain ⟨p2, e2⟩ := q; rw [hn] at h; cases h; exact name_ne hn
  | inl q =>
    obtain ⟨n, s2⟩ := q
    rw [hn] at h
    simp only at h
    split at h
    · cases h; decide
    · split at h
      · cases h; decide
      · cases hx : expectP l 61 s2 with
        | inr q => obtain ⟨p2, e2⟩ := q; rw [hx] at h; cases h; exact expect_ne hx
        | inl q =>
          obtain ⟨u, s3⟩ := q
          rw [hx] at h
          simp only at h
          cases hv : valueP l s3 with
          | inr q => obtain ⟨p2, e2⟩ := q; rw [hv] at h; cases h; exact valueP_ne hv
          | inl q => obtain ⟨v, s4⟩ := q; rw [hv] at h; simp at h
theorem attrsF_ne {l : Bs} : ∀ (k : Nat) (s : St) (acc : List Att) (p : Nat) (e : Int), attrsF l k s acc = .inr (p, e) → e ≠ 0
  | 0, s, acc, p, e, h => by rw [attrsF] at h; simp at h
  | k + 1, s, acc, p, e, h => by
    rw [attrsF] at h
    cases hg : l[(blanksP l s).at_]? with
    | none => rw [hg] at h; cases h; decide
    | some b =>
      rw [hg] at h
      simp only at h
      split at h
      · simp at h
      · split at h
        · cases h; decide
        · cases ha : attrP l acc (blanksP l s) with
          | inr q => obtain ⟨p2, e2⟩ := q; rw [ha] at h; cases h; exact attrP_ne ha
          | inl q => obtain ⟨a, s2⟩ := q; rw [ha] at h; exact attrsF_ne k s2 (acc ++ [a]) p e h
theorem endP_ne {l n : Bs} {s : St} {p : Nat} {e : Int} (h : endP l n s = .inr (p, e)) : e ≠ 0 := by
  unfold endP at h
  cases h1 : expectP l 60 s with
  | inr q => obtain ⟨p2, e2⟩ := q; rw [h1] at h; cases h; exact expect_ne h1
  | inl q =>
    obtain ⟨u1, s2⟩ := q
    rw [h1] at h
    simp only at h
    cases h2 : expectP l 47 s2 with
    | inr q => obtain ⟨p2, e2⟩ := q; rw [h2] at h; cases h; exact expect_ne h2
    | inl q =>
      obtain ⟨u2, s3⟩ := q
      rw [h2] at h
      simp only at h
      cases h3 : nameP l s3 with
      | inr q => obtain ⟨p2, e2⟩ := q; rw [h3] at h; cases h; exact name_ne h3
      | inl q =>
        obtain ⟨nn, s4⟩ := q
        rw [h3] at h
        simp only at h
        split at h
        · exact expect_ne h
        · cases h; decide
theorem elem_ne {l : Bs} {d : Nat} {sb : St → Rs (List (T d))} (hsb : ∀ s p e, sb s = .inr (p, e) → e ≠ 0) {s : St} {p : Nat} {e : Int} (h : elemP l sb s = .inr (p, e)) : e ≠ 0 := by
  unfold elemP at h
  cases hb : beginP s s.at_ with
  | inr q => obtain ⟨p2, e2⟩ := q; rw [hb] at h; cases h; exact begin_nz hb
  | inl q =>
    obtain ⟨u, s1⟩ := q
    rw [hb] at h
    simp only at h
    cases hn : nameP l { s1 with at_ := s1.at_ + 1 } with
    | inr q => obtain ⟨p2, e2⟩ := q; rw [hn] at h; cases h; exact name_ne hn
    | inl q =>
      obtain ⟨n, s2⟩ := q
      rw [hn] at h
      simp only at h
      cases ha : attrsP l s2 with
      | inr q => obtain ⟨p2, e2⟩ := q; rw [ha] at h; cases h; exact attrsF_ne _ _ _ _ _ ha
      | inl q =>
        obtain ⟨a, s3⟩ := q
        rw [ha] at h
        simp only at h
        cases hg : l[s3.at_]? with
        | none => rw [hg] at h; cases h; decide
        | some b =>
          rw [hg] at h
          simp only at h
          split at h
          · cases hx : expectP l 62 { s3 with at_ := s3.at_ + 1 } with
            | inr q => obtain ⟨p2, e2⟩ := q; rw [hx] at h; cases h; exact expect_ne hx
            | inl q => obtain ⟨u2, s4⟩ := q; rw [hx] at h; simp at h
          · cases hx : expectP l 62 s3 with
            | inr q => obtain ⟨p2, e2⟩ := q; rw [hx] at h; cases h; exact expect_ne hx
            | inl q =>
              obtain ⟨u2, s4⟩ := q
              rw [hx] at h
              simp only at h
              cases hk : sb { s4 with op := s4.op + 1 } with
              | inr q => obtain ⟨p2, e2⟩ := q; rw [hk] at h; cases h; exact hsb _ _ _ hk
              | inl q =>
                obtain ⟨x, s5⟩ := q
                rw [hk] at h
                simp only at h
                cases he : endP l n { s5 with op := s5.op - 1 } with
                | inr q => obtain ⟨p2, e2⟩ := q; rw [he] at h; cases h; exact endP_ne he
                | inl q => obtain ⟨u3, s6⟩ := q; rw [he] at h; simp at h
theorem sibF_ne {l : Bs} {d : Nat} {el : St → Rs (T (d + 1))} (hel : ∀ s p e, el s = .inr (p, e) → e ≠ 0) : ∀ (k : Nat) (s : St) (acc : List (T (d + 1))) (p : Nat) (e : Int), sibF l el k s acc = .inr (p, e) → e ≠ 0
  | 0, s, acc, p, e, h => by rw [sibF] at h; simp at h
  | k + 1, s, acc, p, e, h => by
    rw [sibF] at h
    cases hw : wordsP l s with
    | inr q => obtain ⟨p2, e2⟩ := q; rw [hw] at h; cases h; exact words_ne _ _ _ _ _ hw
    | inl q =>
      obtain ⟨t, s1⟩ := q
      rw [hw] at h
      simp only at h
      split at h
      · simp at h
      · cases hx : el s1 with
        | inr q => obtain ⟨p2, e2⟩ := q; rw [hx] at h; cases h; exact hel _ _ _ hx
        | inl q => obtain ⟨x, s2⟩ := q; rw [hx] at h; exact sibF_ne hel k s2 _ p e h
theorem sib_ne (l : Bs) : ∀ (d : Nat) (s : St) (p : Nat) (e : Int), sibP l d s = .inr (p, e) → e ≠ 0
  | 0, s, p, e, h => by
    rw [sibP] at h
    cases hw : wordsP l s with
    | inr q => obtain ⟨p2, e2⟩ := q; rw [hw] at h; cases h; exact words_ne _ _ _ _ _ hw
    | inl q =>
      obtain ⟨t, s1⟩ := q
      rw [hw] at h
      simp only at h
      split at h
      · simp at h
      · cases h; decide
  | d + 1, s, p, e, h => sibF_ne (fun s p e he => elem_ne (fun s p e hs => sib_ne l d s p e hs) he) _ s [] p e h
theorem parse_ne {l : Bs} {p : Nat} {e : Int} (h : parseP l = .inr (p, e)) : e ≠ 0 := by
  unfold parseP at h
  split at h
  · cases h; decide
  · unfold forestP at h
    cases hs : sibP l 64 ⟨0, 0, 0⟩ with
    | inr q => obtain ⟨p2, e2⟩ := q; rw [hs] at h; cases h; exact sib_ne l 64 _ _ _ hs
    | inl q =>
      obtain ⟨x, s⟩ := q
      rw [hs] at h
      simp only at h
      by_cases ha : s.at_ < l.length
      · rw [if_pos ha] at h
        cases he : endP l [] s with
        | inr q => obtain ⟨p2, e2⟩ := q; rw [he] at h; cases h; exact endP_ne he
        | inl q => obtain ⟨u, s1⟩ := q; rw [he] at h; simp at h
      · rw [if_neg ha] at h; simp at h

end Go.Proofs.YtmifejkddgcbmabGreat

/- One form: of any text that is markup the forest can be, is normal, and printed and parsed again it is the same. -/
namespace Go.Proofs.YtmifejkddgcbmabGreat
open Go.RowKit
set_option linter.unusedVariables false
set_option linter.unusedSimpArgs false

/-- What Parse tells of a text that is markup, as data. -/
theorem ppost_kids {w : World} {L : List (T 64)} {e : Ending} {w' : World} (h : PPost w (.inl L) e w') : ∃ a cap, e = .returned (.tuple #[.slice a L.length cap, .int .i64 0, .int .i64 0]) ∧ Tc.KidsAt w' 0 w'.heap.size 64 a L ∧ L.length ≤ maxK ∧ Below w.heap.size w w' := by
  obtain ⟨a, cap, xs, Rf, rfl, h2, h3, h4, h5, h6⟩ := h
  exact ⟨a, cap, rfl, ForS.at h3 h4 (fun b hb => (h5 b hb).2.1), by unfold maxK; omega, h6⟩

set_option maxRecDepth 100000 in
set_option maxHeartbeats 4000000 in
theorem lives_any (w : World) (h0 : 0 < w.heap.size) (m : Int) (hm : w.cell? ⟨0, 0, none⟩ = some (.int .i64 m)) : Calls Tryz.prog 5 #[] w fun e w' => e = .returned (.bool true) ∧ Below w.heap.size w w' := by
  have hp := parse_any w ⟨#[60, 97, 32, 98, 61, 39, 49, 39, 62, 120, 60, 33, 45, 45, 32, 121, 32, 45, 45, 62, 122, 60, 99, 47, 62, 60, 47, 97, 62]⟩ h0 m hm
  rw [show parseP (⟨#[60, 97, 32, 98, 61, 39, 49, 39, 62, 120, 60, 33, 45, 45, 32, 121, 32, 45, 45, 62, 122, 60, 99, 47, 62, 60, 47, 97, 62]⟩ : ByteArray).data.toList = .inl liveF from live_parse] at hp
  have HM : Hid (w.cell? ⟨0, 0, none⟩ = some (.int .i64 m)) := hm
  clear hm
  go_enter Tryz.func5, Tryz.ntmps5
  go_wp2_with fail
  refine hp.mono ?_
  intro e w1 hp1
  obtain ⟨a, cap, rfl, hk, hl, hb1⟩ := ppost_kids hp1
  have hpr := print_any 64 w1 0 a liveF cap hk hl
  rw [live_print] at hpr
  have hlen : liveF.length = 1 := rfl
  rw [hlen] at hpr ⊢
  have hx : (⟨live2.toArray⟩ : ByteArray) = ⟨#[60, 97, 32, 98, 61, 34, 49, 34, 62, 120, 122, 60, 99, 47, 62, 60, 47, 97, 62]⟩ := rfl
  simp only [hx] at hpr
  obtain ⟨b, o, aa, ac, ka, kc, rfl, hbl, c0, -⟩ := kids_get hk (i := 0) (k := elT [97] [(ba [98], ba [49])] [txtT [120, 122], elT [99] [] []]) rfl
  have c0' : w1.cell? ⟨b, o, none⟩ = some (.int .i64 1) := by simpa [elT] using c0
  have HB1 : Hid (Below w.heap.size w w1) := hb1
  have hs1 := hb1.size
  clear hp hp1 hk hl hb1 c0 hx
  go_wp2_with fail
  refine hpr.mono ?_
  rintro e w2 ⟨rfl, hb2⟩
  have d0 := (hb2.cell (p := ⟨b, o, none⟩) hbl).trans c0'
  have HB2 : Hid (Below w.heap.size w w2) := HB1.out.trans (hb2.mono hs1)
  have hs2 := HB2.out.size
  have hbl2 : b < w2.heap.size := by have := hb2.size; omega
  have hq := parse_any w2 ⟨#[60, 97, 62, 60, 47, 98, 62]⟩ (by omega) m ((HB2.out.cell (p := ⟨0, 0, none⟩) h0).trans HM.out)
  rw [show parseP (⟨#[60, 97, 62, 60, 47, 98, 62]⟩ : ByteArray).data.toList = .inr (3, 40) from live_bad] at hq
  clear hpr hb2 c0'
  go_wp2_with fail
  refine hq.mono ?_
  rintro e w3 ⟨rfl, hb3⟩
  have f0 := (hb3.cell (p := ⟨b, o, none⟩) hbl2).trans d0
  have HB3 : Hid (Below w.heap.size w w3) := HB2.out.trans (hb3.mono hs2)
  clear hq hb3 d0
  go_wp2
  go_ret
  exact ⟨rfl, HB3.out⟩

end Go.Proofs.YtmifejkddgcbmabGreat
