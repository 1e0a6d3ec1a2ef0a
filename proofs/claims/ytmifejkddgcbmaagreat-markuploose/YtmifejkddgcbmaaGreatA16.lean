/- A text, with the raw text in it and the remarks. -/
import Derived.Test.YtmifejkddgcbmaaGreatA15
namespace Go.Proofs.YtmifejkddgcbmaaGreat
open Go.RowKit
set_option linter.unusedVariables false
set_option linter.unusedSimpArgs false
attribute [local go_sem] Bel.cell Bel.fz

theorem Own.none (w : World) (B : Nat) : Own w B (.slice none 0 0) [] := ⟨rfl, .inl ⟨rfl, rfl⟩⟩
theorem Own.to {w w' : World} {B : Nat} {v : Value} {o : Bs} (h : Own w B v o) {A : Nat → Prop} (ht : Turn A w w') (hA : ∀ k, B ≤ k → ¬ A k) : Own w' B v o :=
  own_of_block h (fun k hk => ht.block k (World.ownsRow.lt h k hk).2 (hA k (World.ownsRow.lt h k hk).1))

/-- What the loop of 'words' keeps. -/
def WordsAt (w : World) (b : Nat) (tx : ByteArray) (s : St) (v : Value) (wr : World) (o : Bs) (s' : St) (k : Nat) : Prop :=
  o.length ≤ 16384 ∧ tx.size - s'.at_ < k ∧ Own wr w.heap.size v o ∧ wordsP tx.data.toList s = wordsF tx.data.toList k s' o ∧ Rd wr b tx s' ∧ Ok tx s' ∧ Turn (fun x => x = b ∨ w.heap.size ≤ x) w wr

theorem turn_in {w w' : World} {b : Nat} (h : Turn (fun x => x = b ∨ w.heap.size ≤ x) w w') : Turn (fun x => x = b) w w' := h.mono (fun k hk e => by rcases e with e | e; exact e; omega)

set_option maxRecDepth 100000 in
set_option maxHeartbeats 4000000 in
theorem words_any (w : World) (b : Nat) (tx : ByteArray) (s : St) (h : Rd w b tx s) (ok : Ok tx s) :
    Calls Tryz.prog 55 #[.pointer (some ⟨b, 0, none⟩)] w (Post w b tx (· = b) (wordsP tx.data.toList s) fun x e w' => e = .returned (.string (ba x))) := by
  have hbw := h.facts.2.2.2.2.2.2.2
  have HW : Hid (WordsAt w b tx s (.slice none 0 0) w [] s (tx.size - s.at_ + 1)) := ⟨by simp, by omega, Own.none _ _, by unfold wordsP; rw [size_list], h, ok, Turn.refl _ _⟩
  have k1 := ok.len
  clear h ok
  go_enter Tryz.func55, Tryz.ntmps55
  go_wp2
  go_loopw [3] (fun v3 wr => ∃ (o' : Bs) (s' : St) (k : Nat), Hid (WordsAt w b tx s v3 wr o' s' k)) (fun _ wr => tx.size - atOf wr b)
  case atStart => exact ⟨[], s, _, HW⟩
  case round =>
    clear HW
    obtain ⟨o', s', k, hrel⟩ := hrel
    obtain ⟨hol, hk, hown, hgo, hr, hok, ht⟩ := hrel.out
    clear hrel
    obtain ⟨k, rfl⟩ : ∃ j, k = j + 1 := ⟨k - 1, by omega⟩
    obtain ⟨va, vcap, rfl⟩ := hown.slice
    have HO : Hid (Own wr w.heap.size (.slice va o'.length vcap) o') := hown
    have HR : Hid (Rd wr b tx s') := hr
    have HOK : Hid (Ok tx s') := hok
    have HT : Hid (Turn (fun x => x = b ∨ w.heap.size ≤ x) w wr) := ht
    have HGO : Hid (wordsP tx.data.toList s = wordsF tx.data.toList (k + 1) s' o') := hgo
    have hsz := ht.size
    obtain ⟨h0, h1, h2, h3, f1, f2, f3, hb⟩ := hr.facts
    have k2 := hok.at_
    clear hown hr hok ht hgo
    by_cases hlt : s'.at_ < tx.size
    · have ge := get_some hlt
      have hlet := fun (W : World) (hr : Rd W b tx s') => letter_any W b tx s' hr HOK.out hlt
      have hse := fun (W : World) (hr : Rd W b tx s') (p : ByteArray) => sees_any W b tx s' hr HOK.out p
      by_cases hc : tx[s'.at_]'hlt = 60
      · have t2 : (((tx[s'.at_]'hlt).toNat : Int) != 60) = false := by rw [hc]; rfl
        have hs1 := fun (W : World) (hr : Rd W b tx s') => hse W hr ⟨#[60, 33, 45, 45]⟩
        have hs2 := fun (W : World) (hr : Rd W b tx s') => hse W hr ⟨#[60, 63]⟩
        have hs3 := fun (W : World) (hr : Rd W b tx s') => hse W hr ⟨#[60, 33, 91, 67, 68, 65, 84, 65, 91]⟩
        simp only at hs1 hs2 hs3
        clear hse hlet
        cases hS1 : seesP tx.data.toList [60, 33, 45, 45] s'.at_
        · rw [hS1] at hs1
          cases hS2 : seesP tx.data.toList [60, 63] s'.at_
          · rw [hS2] at hs2
            cases hS3 : seesP tx.data.toList [60, 33, 91, 67, 68, 65, 84, 65, 91] s'.at_
            · rw [hS3] at hs3
              have htg := fun (W : World) (hr : Rd W b tx s') => tag_any W b tx s' hr HOK.out hlt hc
              have HG : Hid (wordsP tx.data.toList s = match tagP tx.data.toList s' with
                  | .inr (p, e) => .inr (p, e)
                  | .inl (_, s1) => .inl (o', s1)) := by
                show wordsP _ _ = _
                rw [HGO.out]
                simp only [wordsF, ge, hc, ne_eq, not_true_eq_false, if_false, hS1, hS2, hS3, Bool.false_eq_true]
                cases tagP tx.data.toList s' <;> rfl
              clear hS1 hS2 hS3 HGO hc ge
              go_wp2_with (go_region)
              refine (hs1 _ HR.out.drew.drew).mono ?_
              rintro e w1 ⟨rfl, hbl⟩
              have HB1 : Hid (Below wr.heap.size wr w1) := (Below.refl _ wr).drew.drew.trans hbl
              clear hbl hs1
              go_wp2_with fail
              refine (hs2 _ (HR.out.below HB1.out hb)).mono ?_
              rintro e w2 ⟨rfl, hbl⟩
              have HB2 : Hid (Below wr.heap.size wr w2) := HB1.out.trans (hbl.mono HB1.out.size)
              clear hbl hs2 HB1
              go_wp2_with fail
              refine (hs3 _ (HR.out.below HB2.out hb)).mono ?_
              rintro e w3 ⟨rfl, hbl⟩
              have HB3 : Hid (Below wr.heap.size wr w3) := HB2.out.trans (hbl.mono HB2.out.size)
              clear hbl hs3 HB2
              go_wp2_with fail
              refine (htg _ (HR.out.below HB3.out hb)).mono ?_
              intro e w4 hpost
              cases htp : tagP tx.data.toList s' with
              | inr q_ =>
                obtain ⟨p, c⟩ := q_
                rw [htp] at hpost
                obtain ⟨rfl, ht4⟩ := hpost
                exact ⟨rfl, Post.no (by rw [HG.out, htp]) (((turn_in HT.out).then HB3.out hsz).trans ht4)⟩
              | inl q_ =>
                obtain ⟨u, s1⟩ := q_
                rw [htp] at hpost
                obtain ⟨rfl, hr4, ht4⟩ := hpost
                have HG2 : Hid (wordsP tx.data.toList s = .inl (o', s1)) := by show wordsP _ _ = _; rw [HG.out, htp]
                have ho4 : Own w4 w.heap.size (.slice va o'.length vcap) o' := Own.to (owns_below HO.out HB3.out) ht4 (fun k hk e => by omega)
                have hcv := conv_own (show w4.ownsRow w.heap.size 5 1 _ _ _ from ho4)
                have HT4 : Hid (Turn (fun x => x = b) w w4) := ((turn_in HT.out).then HB3.out hsz).trans ht4
                have HR4 : Hid (Rd w4 b tx s1) := hr4
                clear htp hr4 ht4 htg HG ho4
                go_wp2
                go_ret
                exact Post.yes HG2.out rfl HR4.out HT4.out
            · rw [hS3] at hs3
              have h9 := seesP_le hS3 (by simp)
              rw [size_list] at h9
              have hrw := fun (W : World) (hr : Rd W b tx s') (hB : w.heap.size ≤ W.heap.size) (ho : Own W w.heap.size (.slice va o'.length vcap) o') => raw_any W b w.heap.size tx s' hr HOK.out hbw hB _ o' ho hol h9
              have HG : Hid (wordsP tx.data.toList s = match rawP tx.data.toList s' o' with
                  | .inr (p, e) => .inr (p, e)
                  | .inl (o, s1) => wordsF tx.data.toList k s1 o) := by
                show wordsP _ _ = _
                rw [HGO.out]
                simp only [wordsF, ge, hc, ne_eq, not_true_eq_false, if_false, if_true, hS1, hS2, hS3, Bool.false_eq_true]
                cases rawP tx.data.toList s' o' <;> rfl
              have HRO : Hid (∀ o1 s1, rawP tx.data.toList s' o' = .inl (o1, s1) → s'.at_ < s1.at_ ∧ s1.at_ ≤ tx.data.toList.length ∧ s1.op = s'.op ∧ (s'.nodes ≤ 4096 → s1.nodes ≤ 4096) ∧ o1.length ≤ 16384) := fun o1 s1 e => rawP_ok hol (by rw [size_list]; exact h9) e
              clear hS1 hS2 hS3 HGO hc ge
              go_wp2_with (go_region)
              refine (hs1 _ HR.out.drew.drew).mono ?_
              rintro e w1 ⟨rfl, hbl⟩
              have HB1 : Hid (Below wr.heap.size wr w1) := (Below.refl _ wr).drew.drew.trans hbl
              clear hbl hs1
              go_wp2_with fail
              refine (hs2 _ (HR.out.below HB1.out hb)).mono ?_
              rintro e w2 ⟨rfl, hbl⟩
              have HB2 : Hid (Below wr.heap.size wr w2) := HB1.out.trans (hbl.mono HB1.out.size)
              clear hbl hs2 HB1
              go_wp2_with fail
              refine (hs3 _ (HR.out.below HB2.out hb)).mono ?_
              rintro e w3 ⟨rfl, hbl⟩
              have HB3 : Hid (Below wr.heap.size wr w3) := HB2.out.trans (hbl.mono HB2.out.size)
              clear hbl hs3 HB2
              go_wp2_with fail
              refine (hrw _ (HR.out.below HB3.out hb) (Nat.le_trans hsz HB3.out.size) (owns_below HO.out HB3.out)).mono ?_
              intro e w4 hpost
              cases htp : rawP tx.data.toList s' o' with
              | inr q_ =>
                obtain ⟨p, c⟩ := q_
                rw [htp] at hpost
                obtain ⟨rfl, ht4⟩ := hpost
                exact ⟨rfl, Post.no (by rw [HG.out, htp]) (turn_in ((HT.out.then HB3.out hsz).trans ht4))⟩
              | inl q_ =>
                obtain ⟨o1, s1⟩ := q_
                rw [htp] at hpost
                obtain ⟨⟨v1, rfl, ho4⟩, hr4, ht4⟩ := hpost
                obtain ⟨g1, g2, g3, g4, g5⟩ := HRO.out _ _ htp
                rw [size_list] at g2
                have HW4 : Hid (WordsAt w b tx s v1 w4 o1 s1 k) := ⟨g5, by omega, ho4, by rw [HG.out, htp], hr4, ⟨k1, g2, g4 HOK.out.nodes, by rw [g3]; exact HOK.out.op⟩, (HT.out.then HB3.out hsz).trans ht4⟩
                have HM : Hid (tx.size - atOf w4 b < tx.size - atOf wr b) := by
                  show _ < _
                  rw [hr4.atOf, HR.out.atOf]; omega
                obtain ⟨va1, vcap1, rfl⟩ := ho4.slice
                clear htp hr4 ht4 hrw HG ho4 HRO
                go_wp2
                exact ⟨⟨o1, s1, k, HW4⟩, HM.out⟩
          · rw [hS2] at hs2
            have h9 := seesP_le hS2 (by simp)
            rw [size_list] at h9
            have hsk := fun (W : World) (hr : Rd W b tx s') => skip_any W b tx s' hr HOK.out ⟨#[60, 63]⟩ ⟨#[63, 62]⟩ h9 (by decide)
            have e2 : (⟨#[60, 63]⟩ : ByteArray).size = 2 := rfl
            have e3 : (⟨#[63, 62]⟩ : ByteArray).data.toList = [63, 62] := rfl
            simp only [e2, e3] at hsk
            have HG : Hid (wordsP tx.data.toList s = match skipP tx.data.toList 2 [63, 62] s' with
                | .inr (p, e) => .inr (p, e)
                | .inl (_, s1) => wordsF tx.data.toList k s1 o') := by
              show wordsP _ _ = _
              rw [HGO.out]
              simp only [wordsF, ge, hc, ne_eq, not_true_eq_false, if_false, if_true, hS1, hS2, Bool.false_eq_true]
              cases skipP tx.data.toList 2 [63, 62] s' <;> rfl
            have HSO : Hid (∀ x s1, skipP tx.data.toList 2 [63, 62] s' = .inl (x, s1) → s1 = { s' with at_ := s'.at_ + 2 + x.length + 2 } ∧ s'.at_ + 2 + x.length + 2 ≤ tx.data.toList.length) := fun x s1 e => ⟨(skipP_ok e (by rw [size_list]; exact h9)).1, (skipP_ok e (by rw [size_list]; exact h9)).2.1⟩
            clear hS1 hS2 HGO hc ge hs3 e2 e3
            go_wp2_with (go_region)
            refine (hs1 _ HR.out.drew.drew).mono ?_
            rintro e w1 ⟨rfl, hbl⟩
            have HB1 : Hid (Below wr.heap.size wr w1) := (Below.refl _ wr).drew.drew.trans hbl
            clear hbl hs1
            go_wp2_with fail
            refine (hs2 _ (HR.out.below HB1.out hb)).mono ?_
            rintro e w2 ⟨rfl, hbl⟩
            have HB2 : Hid (Below wr.heap.size wr w2) := HB1.out.trans (hbl.mono HB1.out.size)
            clear hbl hs2 HB1
            go_wp2_with fail
            refine (hsk _ (HR.out.below HB2.out hb)).mono ?_
            intro e w4 hpost
            cases htp : skipP tx.data.toList 2 [63, 62] s' with
            | inr q_ =>
              obtain ⟨p, c⟩ := q_
              rw [htp] at hpost
              obtain ⟨rfl, ht4⟩ := hpost
              exact ⟨rfl, Post.no (by rw [HG.out, htp]) (((turn_in HT.out).then HB2.out hsz).trans ht4)⟩
            | inl q_ =>
              obtain ⟨x, s1⟩ := q_
              rw [htp] at hpost
              obtain ⟨rfl, hr4, ht4⟩ := hpost
              obtain ⟨g1, g2⟩ := HSO.out _ _ htp
              rw [size_list] at g2
              have g3 : s1.at_ = s'.at_ + 2 + x.length + 2 := by rw [g1]
              have ho4 : Own w4 w.heap.size (.slice va o'.length vcap) o' := Own.to (owns_below HO.out HB2.out) ht4 (fun k hk e => by omega)
              have HW4 : Hid (WordsAt w b tx s (.slice va o'.length vcap) w4 o' s1 k) := ⟨hol, by omega, ho4, by rw [HG.out, htp], hr4, ⟨k1, by omega, by rw [g1]; exact HOK.out.nodes, by rw [g1]; exact HOK.out.op⟩, (HT.out.then HB2.out hsz).trans (ht4.mono (fun k _ e => .inl e))⟩
              have HM : Hid (tx.size - atOf w4 b < tx.size - atOf wr b) := by
                show _ < _
                rw [hr4.atOf, HR.out.atOf]; omega
              clear htp hr4 ht4 hsk HG ho4 HSO g1
              go_wp2
              exact ⟨⟨o', s1, k, HW4⟩, HM.out⟩
        · rw [hS1] at hs1
          have h9 := seesP_le hS1 (by simp)
          rw [size_list] at h9
          have hsk := fun (W : World) (hr : Rd W b tx s') => skip_any W b tx s' hr HOK.out ⟨#[60, 33, 45, 45]⟩ ⟨#[45, 45, 62]⟩ h9 (by decide)
          have e2 : (⟨#[60, 33, 45, 45]⟩ : ByteArray).size = 4 := rfl
          have e3 : (⟨#[45, 45, 62]⟩ : ByteArray).data.toList = [45, 45, 62] := rfl
          simp only [e2, e3] at hsk
          have HG : Hid (wordsP tx.data.toList s = match skipP tx.data.toList 4 [45, 45, 62] s' with
              | .inr (p, e) => .inr (p, e)
              | .inl (_, s1) => wordsF tx.data.toList k s1 o') := by
            show wordsP _ _ = _
            rw [HGO.out]
            simp only [wordsF, ge, hc, ne_eq, not_true_eq_false, if_false, if_true, hS1, Bool.false_eq_true]
            cases skipP tx.data.toList 4 [45, 45, 62] s' <;> rfl
          have HSO : Hid (∀ x s1, skipP tx.data.toList 4 [45, 45, 62] s' = .inl (x, s1) → s1 = { s' with at_ := s'.at_ + 4 + x.length + 3 } ∧ s'.at_ + 4 + x.length + 3 ≤ tx.data.toList.length) := fun x s1 e => ⟨(skipP_ok e (by rw [size_list]; exact h9)).1, (skipP_ok e (by rw [size_list]; exact h9)).2.1⟩
          clear hS1 HGO hc ge hs3 hs2 e2 e3
          go_wp2_with (go_region)
          refine (hs1 _ HR.out.drew.drew).mono ?_
          rintro e w1 ⟨rfl, hbl⟩
          have HB1 : Hid (Below wr.heap.size wr w1) := (Below.refl _ wr).drew.drew.trans hbl
          clear hbl hs1
          go_wp2_with fail
          refine (hsk _ (HR.out.below HB1.out hb)).mono ?_
          intro e w4 hpost
          cases htp : skipP tx.data.toList 4 [45, 45, 62] s' with
          | inr q_ =>
            obtain ⟨p, c⟩ := q_
            rw [htp] at hpost
            obtain ⟨rfl, ht4⟩ := hpost
            exact ⟨rfl, Post.no (by rw [HG.out, htp]) (((turn_in HT.out).then HB1.out hsz).trans ht4)⟩
          | inl q_ =>
            obtain ⟨x, s1⟩ := q_
            rw [htp] at hpost
            obtain ⟨rfl, hr4, ht4⟩ := hpost
            obtain ⟨g1, g2⟩ := HSO.out _ _ htp
            rw [size_list] at g2
            have g3 : s1.at_ = s'.at_ + 4 + x.length + 3 := by rw [g1]
            have ho4 : Own w4 w.heap.size (.slice va o'.length vcap) o' := Own.to (owns_below HO.out HB1.out) ht4 (fun k hk e => by omega)
            have HW4 : Hid (WordsAt w b tx s (.slice va o'.length vcap) w4 o' s1 k) := ⟨hol, by omega, ho4, by rw [HG.out, htp], hr4, ⟨k1, by omega, by rw [g1]; exact HOK.out.nodes, by rw [g1]; exact HOK.out.op⟩, (HT.out.then HB1.out hsz).trans (ht4.mono (fun k _ e => .inl e))⟩
            have HM : Hid (tx.size - atOf w4 b < tx.size - atOf wr b) := by
              show _ < _
              rw [hr4.atOf, HR.out.atOf]; omega
            clear htp hr4 ht4 hsk HG ho4 HSO g1
            go_wp2
            exact ⟨⟨o', s1, k, HW4⟩, HM.out⟩
      · have t2 : (((tx[s'.at_]'hlt).toNat : Int) != 60) = true := by
          have : (tx[s'.at_]'hlt).toNat ≠ 60 := fun e => hc (UInt8.toNat_inj.1 e)
          simp; omega
        have HG : Hid (wordsP tx.data.toList s = match letterP tx.data.toList s' with
            | .inr (p, e) => .inr (p, e)
            | .inl (x, s1) => match putP s1 o' x s'.at_ with
              | .inr (p, e) => .inr (p, e)
              | .inl (o, s2) => wordsF tx.data.toList k s2 o) := by
          show wordsP _ _ = _
          rw [HGO.out]
          simp only [wordsF, ge, hc, ne_eq, not_false_eq_true, if_true]
          cases letterP tx.data.toList s' with
          | inr q_ => obtain ⟨p, e⟩ := q_; rfl
          | inl q_ => obtain ⟨x, s1⟩ := q_; simp only; cases putP s1 o' x s'.at_ <;> rfl
        clear HGO hc ge hse
        go_wp2_with (go_region)
        refine (hlet _ HR.out.drew.drew).mono ?_
        intro e w2 hpost
        cases hlp : letterP tx.data.toList s' with
        | inr q_ =>
          obtain ⟨p, c⟩ := q_
          rw [hlp] at hpost
          obtain ⟨rfl, ht2⟩ := hpost
          exact ⟨rfl, Post.no (by rw [HG.out, hlp]) ((turn_in HT.out).drew.drew.trans ht2)⟩
        | inl q_ =>
          obtain ⟨x, s1⟩ := q_
          rw [hlp] at hpost
          obtain ⟨rfl, hr2, ht2⟩ := hpost
          obtain ⟨g1, g2, g3, g4, g5⟩ := letterP_ok hlp
          rw [size_list] at g2
          have HK1 : Hid (Ok tx s1) := HOK.out.letter hlp
          have HO2 : Hid (Own w2 w.heap.size (.slice va o'.length vcap) o') := Own.to (show Own wr.drew.drew w.heap.size _ o' from HO.out) ht2 (fun k hk e => by omega)
          have HT2 : Hid (Turn (fun x => x = b ∨ w.heap.size ≤ x) w w2) := HT.out.drew.drew.trans (ht2.mono (fun k _ e => .inl e))
          have hput := put_any w2 b w.heap.size tx s1 hr2 HK1.out hbw HT2.out.size _ o' HO2.out hol (ba x) (by rw [ba_size]; omega) s'.at_
          rw [ba_list] at hput
          have HG2 : Hid (wordsP tx.data.toList s = match putP s1 o' x s'.at_ with
              | .inr (p, e) => .inr (p, e)
              | .inl (o, s2) => wordsF tx.data.toList k s2 o) := by show wordsP _ _ = _; rw [HG.out, hlp]
          clear hlp hr2 ht2 hlet HG
          go_wp2_with fail
          refine hput.mono ?_
          intro e w3 hpost
          cases hpp : putP s1 o' x s'.at_ with
          | inr q_ =>
            obtain ⟨p, c⟩ := q_
            rw [hpp] at hpost
            obtain ⟨rfl, ht3⟩ := hpost
            exact ⟨rfl, Post.no (by rw [HG2.out, hpp]) (turn_in (HT2.out.trans ht3))⟩
          | inl q_ =>
            obtain ⟨o2, s2⟩ := q_
            rw [hpp] at hpost
            obtain ⟨⟨v1, rfl, ho3⟩, hr3, ht3⟩ := hpost
            obtain ⟨p1, p2, p3, -, p5⟩ := putP_ok hpp
            have HW4 : Hid (WordsAt w b tx s v1 w3 o2 s2 k) := ⟨p5, by omega, ho3, by rw [HG2.out, hpp], hr3, HK1.out.put hpp, HT2.out.trans ht3⟩
            have HM : Hid (tx.size - atOf w3 b < tx.size - atOf wr b) := by
              show _ < _
              rw [hr3.atOf, HR.out.atOf]; omega
            obtain ⟨va1, vcap1, rfl⟩ := ho3.slice
            clear hpp hr3 ht3 hput HG2 ho3
            go_wp2
            exact ⟨⟨o2, s2, k, HW4⟩, HM.out⟩
    · have HG : Hid (wordsP tx.data.toList s = .inl (o', s')) := by
        show wordsP _ _ = _
        rw [HGO.out]
        simp only [wordsF, get_no (Nat.le_of_not_lt hlt)]
      have t1 : ¬ ((s'.at_ : Int) < (tx.size : Int)) := by omega
      have hcv := conv_own (show wr.drew.ownsRow w.heap.size 5 1 _ _ _ from HO.out)
      go_wp2_with (go_region)
      go_ret
      exact Post.yes HG.out rfl HR.out (turn_in HT.out).drew

end Go.Proofs.YtmifejkddgcbmaaGreat
