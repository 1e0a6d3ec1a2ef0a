/- A fault has a name: what is told of it is never OK. -/
import Derived.Test.YtmifejkddgcbmaaGreatB06
import Derived.Test.YtmifejkddgcbmaaGreatB07
namespace Go.Proofs.YtmifejkddgcbmaaGreat
open Go.RowKit
set_option linter.unusedVariables false
set_option linter.unusedSimpArgs false

theorem letter_ne {l : Bs} {s : St} {p : Nat} {e : Int} (h : letterP l s = .inr (p, e)) : e ≠ 0 := by
  unfold letterP at h
  split at h
  · cases h; decide
  · split at h
    · split at h
      · simp at h
      · rename_i h0; cases h; exact h0
    · split at h
      · simp at h
      · cases h; decide
theorem begin_nz {s : St} {a p : Nat} {e : Int} (h : beginP s a = .inr (p, e)) : e ≠ 0 := by
  unfold beginP at h
  split at h
  · cases h; decide
  · simp at h
theorem grow_ne {s : St} {out x : Bs} {a p : Nat} {e : Int} (h : growP s out x a = .inr (p, e)) : e ≠ 0 := by
  unfold growP at h
  split at h
  · cases h; decide
  · simp at h
theorem put_ne {s : St} {out x : Bs} {a p : Nat} {e : Int} (h : putP s out x a = .inr (p, e)) : e ≠ 0 := by
  unfold putP at h
  by_cases ho : out = []
  · rw [if_pos ho] at h
    cases hb : beginP s a with
    | inl q => obtain ⟨u, s1⟩ := q; rw [hb] at h; exact grow_ne h
    | inr q => obtain ⟨p2, e2⟩ := q; rw [hb] at h; cases h; exact begin_nz hb
  · rw [if_neg ho] at h
    exact grow_ne h
theorem puts_ne : ∀ (x : Bs) (s : St) (out : Bs) (a p : Nat) (e : Int), putsP s out x a = .inr (p, e) → e ≠ 0
  | [], s, out, a, p, e, h => by rw [putsP] at h; simp at h
  | b :: r, s, out, a, p, e, h => by
    rw [putsP] at h
    cases hp : putP s out [b] a with
    | inr q => obtain ⟨p2, e2⟩ := q; rw [hp] at h; cases h; exact put_ne hp
    | inl q => obtain ⟨o2, s2⟩ := q; rw [hp] at h; exact puts_ne r s2 o2 (a + 1) p e h
theorem rawF_ne : ∀ (k : Nat) (s : St) (out x : Bs) (a p : Nat) (e : Int), rawF k s out x a = .inr (p, e) → e ≠ 0
  | 0, s, out, x, a, p, e, h => by rw [rawF] at h; simp at h
  | k + 1, s, out, x, a, p, e, h => by
    rw [rawF] at h
    by_cases hx : x = []
    · rw [if_pos hx] at h; simp at h
    · rw [if_neg hx] at h
      cases hf : first x with
      | none => rw [hf] at h; cases h; decide
      | some q =>
        obtain ⟨r, n⟩ := q
        rw [hf] at h
        simp only at h
        cases hp : putsP s out (x.take n) a with
        | inr q => obtain ⟨p2, e2⟩ := q; rw [hp] at h; cases h; exact puts_ne _ _ _ _ _ _ hp
        | inl q => obtain ⟨o2, s2⟩ := q; rw [hp] at h; exact rawF_ne k s2 o2 (x.drop n) (a + n) p e h
theorem skip_ne {l : Bs} {n : Nat} {q : Bs} {s : St} {p : Nat} {e : Int} (h : skipP l n q s = .inr (p, e)) : e ≠ 0 := by
  unfold skipP at h
  split at h
  · cases h; decide
  · simp at h
theorem tag_ne {l : Bs} {s : St} {p : Nat} {e : Int} (h : tagP l s = .inr (p, e)) : e ≠ 0 := by
  unfold tagP at h
  split at h
  · cases h; decide
  · split at h
    · simp at h
    · split at h
      · split at h
        · simp at h
        · cases h; decide
      · cases h; decide
theorem words_ne {l : Bs} : ∀ (k : Nat) (s : St) (out : Bs) (p : Nat) (e : Int), wordsF l k s out = .inr (p, e) → e ≠ 0
  | 0, s, out, p, e, h => by rw [wordsF] at h; simp at h
  | k + 1, s, out, p, e, h => by
    rw [wordsF] at h
    cases hg : l[s.at_]? with
    | none => rw [hg] at h; simp at h
    | some b =>
      rw [hg] at h
      simp only at h
      split at h
      · cases hlt : letterP l s with
        | inr q => obtain ⟨p2, e2⟩ := q; rw [hlt] at h; cases h; exact letter_ne hlt
        | inl q =>
          obtain ⟨x, s2⟩ := q
          rw [hlt] at h
          simp only at h
          cases hp : putP s2 out x s.at_ with
          | inr q => obtain ⟨p2, e2⟩ := q; rw [hp] at h; cases h; exact put_ne hp
          | inl q => obtain ⟨o3, s3⟩ := q; rw [hp] at h; exact words_ne k s3 o3 p e h
      · split at h
        · cases hsk : skipP l 4 [45, 45, 62] s with
          | inr q => obtain ⟨p2, e2⟩ := q; rw [hsk] at h; cases h; exact skip_ne hsk
          | inl q => obtain ⟨x, s2⟩ := q; rw [hsk] at h; exact words_ne k _ out p e h
        · split at h
          · cases hsk : skipP l 2 [63, 62] s with
            | inr q => obtain ⟨p2, e2⟩ := q; rw [hsk] at h; cases h; exact skip_ne hsk
            | inl q => obtain ⟨x, s2⟩ := q; rw [hsk] at h; exact words_ne k _ out p e h
          · split at h
            · cases hr : rawP l s out with
              | inr q =>
                obtain ⟨p2, e2⟩ := q
                rw [hr] at h
                cases h
                unfold rawP at hr
                cases hsk : skipP l 9 [93, 93, 62] s with
                | inr q => obtain ⟨p3, e3⟩ := q; rw [hsk] at hr; cases hr; exact skip_ne hsk
                | inl q => obtain ⟨x, s3⟩ := q; rw [hsk] at hr; exact rawF_ne _ _ _ _ _ _ _ hr
              | inl q => obtain ⟨o2, s2⟩ := q; rw [hr] at h; exact words_ne k s2 o2 p e h
            · cases ht : tagP l s with
              | inr q => obtain ⟨p2, e2⟩ := q; rw [ht] at h; cases h; exact tag_ne ht
              | inl q => obtain ⟨u, s2⟩ := q; rw [ht] at h; simp at h
theorem valueF_ne {l : Bs} {q : UInt8} : ∀ (k : Nat) (s : St) (out : Bs) (p : Nat) (e : Int), valueF l q k s out = .inr (p, e) → e ≠ 0
  | 0, s, out, p, e, h => by rw [valueF] at h; simp at h
  | k + 1, s, out, p, e, h => by
    rw [valueF] at h
    cases hg : l[s.at_]? with
    | none => rw [hg] at h; cases h; decide
    | some b =>
      rw [hg] at h
      simp only at h
      split at h
      · simp at h
      · split at h
        · cases h; decide
        · cases hlt : letterP l s with
          | inr q => obtain ⟨p2, e2⟩ := q; rw [hlt] at h; cases h; exact letter_ne hlt
          | inl q2 =>
            obtain ⟨x, s2⟩ := q2
            rw [hlt] at h
            simp only at h
            cases hp : growP s2 out x s.at_ with
            | inr q => obtain ⟨p2, e2⟩ := q; rw [hp] at h; cases h; exact grow_ne hp
            | inl q3 => obtain ⟨o3, s3⟩ := q3; rw [hp] at h; exact valueF_ne k s3 o3 p e h
theorem valueP_ne {l : Bs} {s : St} {p : Nat} {e : Int} (h : valueP l s = .inr (p, e)) : e ≠ 0 := by
  unfold valueP at h
  split at h
  · cases h; decide
  · split at h
    · exact valueF_ne _ _ _ _ _ h
    · cases h; decide
theorem name_ne {l : Bs} {s : St} {p : Nat} {e : Int} (h : nameP l s = .inr (p, e)) : e ≠ 0 := by
  unfold nameP at h
  split at h
  · cases h; decide
  · split at h
    · split at h
      · simp at h
      · cases h; decide
    · cases h; decide
theorem expect_ne {l : Bs} {c : UInt8} {s : St} {p : Nat} {e : Int} (h : expectP l c s = .inr (p, e)) : e ≠ 0 := by
  unfold expectP at h
  split at h
  · split at h
    · simp at h
    · cases h; decide
  · cases h; decide
theorem attrP_ne {l : Bs} {L : List Att} {s : St} {p : Nat} {e : Int} (h : attrP l L s = .inr (p, e)) : e ≠ 0 := by
  unfold attrP at h
  cases hn : nameP l s with
  | inr q => obtain ⟨p2, e2⟩ := q; rw [hn] at h; cases h; exact name_ne hn
  | inl q =>
    obtain ⟨n, s2⟩ := q
    rw [hn] at h
    simp only at h
    split at h
    · cases h; decide
    · split at h
      · cases h; decide
      · cases hx : expectP l 61 s2 with
        | inr q => obtain ⟨p2, e2⟩ := q; rw [hx] at h; cases h; exact expect_ne hx
        | inl q =>
          obtain ⟨u, s3⟩ := q
          rw [hx] at h
          simp only at h
          cases hv : valueP l s3 with
          | inr q => obtain ⟨p2, e2⟩ := q; rw [hv] at h; cases h; exact valueP_ne hv
          | inl q => obtain ⟨v, s4⟩ := q; rw [hv] at h; simp at h
theorem attrsF_ne {l : Bs} : ∀ (k : Nat) (s : St) (acc : List Att) (p : Nat) (e : Int), attrsF l k s acc = .inr (p, e) → e ≠ 0
  | 0, s, acc, p, e, h => by rw [attrsF] at h; simp at h
  | k + 1, s, acc, p, e, h => by
    rw [attrsF] at h
    cases hg : l[(blanksP l s).at_]? with
    | none => rw [hg] at h; cases h; decide
    | some b =>
      rw [hg] at h
      simp only at h
      split at h
      · simp at h
      · split at h
        · cases h; decide
        · cases ha : attrP l acc (blanksP l s) with
          | inr q => obtain ⟨p2, e2⟩ := q; rw [ha] at h; cases h; exact attrP_ne ha
          | inl q => obtain ⟨a, s2⟩ := q; rw [ha] at h; exact attrsF_ne k s2 (acc ++ [a]) p e h
theorem endP_ne {l n : Bs} {s : St} {p : Nat} {e : Int} (h : endP l n s = .inr (p, e)) : e ≠ 0 := by
  unfold endP at h
  cases h1 : expectP l 60 s with
  | inr q => obtain ⟨p2, e2⟩ := q; rw [h1] at h; cases h; exact expect_ne h1
  | inl q =>
    obtain ⟨u1, s2⟩ := q
    rw [h1] at h
    simp only at h
    cases h2 : expectP l 47 s2 with
    | inr q => obtain ⟨p2, e2⟩ := q; rw [h2] at h; cases h; exact expect_ne h2
    | inl q =>
      obtain ⟨u2, s3⟩ := q
      rw [h2] at h
      simp only at h
      cases h3 : nameP l s3 with
      | inr q => obtain ⟨p2, e2⟩ := q; rw [h3] at h; cases h; exact name_ne h3
      | inl q =>
        obtain ⟨nn, s4⟩ := q
        rw [h3] at h
        simp only at h
        split at h
        · exact expect_ne h
        · cases h; decide
theorem elem_ne {l : Bs} {d : Nat} {sb : St → Rs (List (T d))} (hsb : ∀ s p e, sb s = .inr (p, e) → e ≠ 0) {s : St} {p : Nat} {e : Int} (h : elemP l sb s = .inr (p, e)) : e ≠ 0 := by
  unfold elemP at h
  cases hb : beginP s s.at_ with
  | inr q => obtain ⟨p2, e2⟩ := q; rw [hb] at h; cases h; exact begin_nz hb
  | inl q =>
    obtain ⟨u, s1⟩ := q
    rw [hb] at h
    simp only at h
    cases hn : nameP l { s1 with at_ := s1.at_ + 1 } with
    | inr q => obtain ⟨p2, e2⟩ := q; rw [hn] at h; cases h; exact name_ne hn
    | inl q =>
      obtain ⟨n, s2⟩ := q
      rw [hn] at h
      simp only at h
      cases ha : attrsP l s2 with
      | inr q => obtain ⟨p2, e2⟩ := q; rw [ha] at h; cases h; exact attrsF_ne _ _ _ _ _ ha
      | inl q =>
        obtain ⟨a, s3⟩ := q
        rw [ha] at h
        simp only at h
        cases hg : l[s3.at_]? with
        | none => rw [hg] at h; cases h; decide
        | some b =>
          rw [hg] at h
          simp only at h
          split at h
          · cases hx : expectP l 62 { s3 with at_ := s3.at_ + 1 } with
            | inr q => obtain ⟨p2, e2⟩ := q; rw [hx] at h; cases h; exact expect_ne hx
            | inl q => obtain ⟨u2, s4⟩ := q; rw [hx] at h; simp at h
          · cases hx : expectP l 62 s3 with
            | inr q => obtain ⟨p2, e2⟩ := q; rw [hx] at h; cases h; exact expect_ne hx
            | inl q =>
              obtain ⟨u2, s4⟩ := q
              rw [hx] at h
              simp only at h
              cases hk : sb { s4 with op := s4.op + 1 } with
              | inr q => obtain ⟨p2, e2⟩ := q; rw [hk] at h; cases h; exact hsb _ _ _ hk
              | inl q =>
                obtain ⟨x, s5⟩ := q
                rw [hk] at h
                simp only at h
                cases he : endP l n { s5 with op := s5.op - 1 } with
                | inr q => obtain ⟨p2, e2⟩ := q; rw [he] at h; cases h; exact endP_ne he
                | inl q => obtain ⟨u3, s6⟩ := q; rw [he] at h; simp at h
theorem sibF_ne {l : Bs} {d : Nat} {el : St → Rs (T (d + 1))} (hel : ∀ s p e, el s = .inr (p, e) → e ≠ 0) : ∀ (k : Nat) (s : St) (acc : List (T (d + 1))) (p : Nat) (e : Int), sibF l el k s acc = .inr (p, e) → e ≠ 0
  | 0, s, acc, p, e, h => by rw [sibF] at h; simp at h
  | k + 1, s, acc, p, e, h => by
    rw [sibF] at h
    cases hw : wordsP l s with
    | inr q => obtain ⟨p2, e2⟩ := q; rw [hw] at h; cases h; exact words_ne _ _ _ _ _ hw
    | inl q =>
      obtain ⟨t, s1⟩ := q
      rw [hw] at h
      simp only at h
      split at h
      · simp at h
      · cases hx : el s1 with
        | inr q => obtain ⟨p2, e2⟩ := q; rw [hx] at h; cases h; exact hel _ _ _ hx
        | inl q => obtain ⟨x, s2⟩ := q; rw [hx] at h; exact sibF_ne hel k s2 _ p e h
theorem sib_ne (l : Bs) : ∀ (d : Nat) (s : St) (p : Nat) (e : Int), sibP l d s = .inr (p, e) → e ≠ 0
  | 0, s, p, e, h => by
    rw [sibP] at h
    cases hw : wordsP l s with
    | inr q => obtain ⟨p2, e2⟩ := q; rw [hw] at h; cases h; exact words_ne _ _ _ _ _ hw
    | inl q =>
      obtain ⟨t, s1⟩ := q
      rw [hw] at h
      simp only at h
      split at h
      · simp at h
      · cases h; decide
  | d + 1, s, p, e, h => sibF_ne (fun s p e he => elem_ne (fun s p e hs => sib_ne l d s p e hs) he) _ s [] p e h
theorem parse_ne {l : Bs} {p : Nat} {e : Int} (h : parseP l = .inr (p, e)) : e ≠ 0 := by
  unfold parseP at h
  split at h
  · cases h; decide
  · unfold forestP at h
    cases hs : sibP l 64 ⟨0, 0, 0⟩ with
    | inr q => obtain ⟨p2, e2⟩ := q; rw [hs] at h; cases h; exact sib_ne l 64 _ _ _ hs
    | inl q =>
      obtain ⟨x, s⟩ := q
      rw [hs] at h
      simp only at h
      by_cases ha : s.at_ < l.length
      · rw [if_pos ha] at h
        cases he : endP l [] s with
        | inr q => obtain ⟨p2, e2⟩ := q; rw [he] at h; cases h; exact endP_ne he
        | inl q => obtain ⟨u, s1⟩ := q; rw [he] at h; simp at h
      · rw [if_neg ha] at h; simp at h

end Go.Proofs.YtmifejkddgcbmaaGreat

/- One form: of any text that is markup the forest can be, is normal, and printed and parsed again it is the same. -/
namespace Go.Proofs.YtmifejkddgcbmaaGreat
open Go.RowKit
set_option linter.unusedVariables false
set_option linter.unusedSimpArgs false

/-- What Parse tells of a text that is markup, as data. -/
theorem ppost_kids {w : World} {L : List (T 64)} {e : Ending} {w' : World} (h : PPost w (.inl L) e w') : ∃ a cap, e = .returned (.tuple #[.slice a L.length cap, .int .i64 0, .int .i64 0]) ∧ Tc.KidsAt w' 0 w'.heap.size 64 a L ∧ L.length ≤ maxK ∧ Below w.heap.size w w' := by
  obtain ⟨a, cap, xs, Rf, rfl, h2, h3, h4, h5, h6⟩ := h
  exact ⟨a, cap, rfl, ForS.at h3 h4 (fun b hb => (h5 b hb).2.1), by unfold maxK; omega, h6⟩

set_option maxRecDepth 100000 in
set_option maxHeartbeats 4000000 in
theorem lives_any (w : World) (h0 : 0 < w.heap.size) (m : Int) (hm : w.cell? ⟨0, 0, none⟩ = some (.int .i64 m)) : Calls Tryz.prog 12 #[] w fun e w' => e = .returned (.bool true) ∧ Below w.heap.size w w' := by
  have hp := parse_any w ⟨#[60, 97, 32, 98, 61, 39, 49, 39, 62, 120, 60, 33, 45, 45, 32, 121, 32, 45, 45, 62, 122, 60, 99, 47, 62, 60, 47, 97, 62]⟩ h0 m hm
  rw [show parseP (⟨#[60, 97, 32, 98, 61, 39, 49, 39, 62, 120, 60, 33, 45, 45, 32, 121, 32, 45, 45, 62, 122, 60, 99, 47, 62, 60, 47, 97, 62]⟩ : ByteArray).data.toList = .inl liveF from live_parse] at hp
  have HM : Hid (w.cell? ⟨0, 0, none⟩ = some (.int .i64 m)) := hm
  clear hm
  go_enter Tryz.func12, Tryz.ntmps12
  go_wp2_with fail
  refine hp.mono ?_
  intro e w1 hp1
  obtain ⟨a, cap, rfl, hk, hl, hb1⟩ := ppost_kids hp1
  have hpr := print_any 64 w1 0 a liveF cap hk hl
  rw [live_print] at hpr
  have hlen : liveF.length = 1 := rfl
  rw [hlen] at hpr ⊢
  have hx : (⟨live2.toArray⟩ : ByteArray) = ⟨#[60, 97, 32, 98, 61, 34, 49, 34, 62, 120, 122, 60, 99, 47, 62, 60, 47, 97, 62]⟩ := rfl
  simp only [hx] at hpr
  obtain ⟨b, o, aa, ac, ka, kc, rfl, hbl, c0, -⟩ := kids_get hk (i := 0) (k := elT [97] [(ba [98], ba [49])] [txtT [120, 122], elT [99] [] []]) rfl
  have c0' : w1.cell? ⟨b, o, none⟩ = some (.int .i64 1) := by simpa [elT] using c0
  have HB1 : Hid (Below w.heap.size w w1) := hb1
  have hs1 := hb1.size
  clear hp hp1 hk hl hb1 c0 hx
  go_wp2_with fail
  refine hpr.mono ?_
  rintro e w2 ⟨rfl, hb2⟩
  have d0 := (hb2.cell (p := ⟨b, o, none⟩) hbl).trans c0'
  have HB2 : Hid (Below w.heap.size w w2) := HB1.out.trans (hb2.mono hs1)
  have hs2 := HB2.out.size
  have hbl2 : b < w2.heap.size := by have := hb2.size; omega
  have hq := parse_any w2 ⟨#[60, 97, 62, 60, 47, 98, 62]⟩ (by omega) m ((HB2.out.cell (p := ⟨0, 0, none⟩) h0).trans HM.out)
  rw [show parseP (⟨#[60, 97, 62, 60, 47, 98, 62]⟩ : ByteArray).data.toList = .inr (3, 40) from live_bad] at hq
  clear hpr hb2 c0'
  go_wp2_with fail
  refine hq.mono ?_
  rintro e w3 ⟨rfl, hb3⟩
  have f0 := (hb3.cell (p := ⟨b, o, none⟩) hbl2).trans d0
  have HB3 : Hid (Below w.heap.size w w3) := HB2.out.trans (hb3.mono hs2)
  clear hq hb3 d0
  go_wp2
  go_ret
  exact ⟨rfl, HB3.out⟩

set_option maxRecDepth 100000 in
set_option maxHeartbeats 8000000 in
theorem form_walk (w : World) (tx : ByteArray) (h0 : 0 < w.heap.size) (m : Int) (hm : w.cell? ⟨0, 0, none⟩ = some (.int .i64 m)) : Calls Tryz.prog 5 #[.string tx] w fun e w' => e = .returned (.bool true) ∧ Below w.heap.size w w' := by
  have hlv := lives_any w h0 m hm
  have HM : Hid (∀ W, Below w.heap.size w W → W.cell? ⟨0, 0, none⟩ = some (.int .i64 m)) := fun W hW => (hW.cell (p := ⟨0, 0, none⟩) h0).trans hm
  have hmade := parse_made tx.data.toList
  clear hm
  cases hpp : parseP tx.data.toList with
  | inr q =>
    obtain ⟨p, c⟩ := q
    rw [hpp] at hmade
    have hc := parse_ne hpp
    have hcb : (c != 0) = true := by simpa using hc
    have hple : (p : Int) ≤ (tx.size : Int) := by have : p ≤ tx.data.toList.length := hmade; rw [size_list] at this; omega
    have hp0 : (0 : Int) ≤ (p : Int) := by omega
    have HP : Hid (∀ W, Below w.heap.size w W → Calls Tryz.prog 9 #[.string tx] W (PPost W (.inr (p, c)))) := fun W hW => by
      have := parse_any W tx (Nat.lt_of_lt_of_le h0 hW.size) m (HM.out W hW)
      rwa [hpp] at this
    clear hpp hmade hc
    go_enter Tryz.func5, Tryz.ntmps5
    go_wp2_with fail
    refine hlv.mono ?_
    rintro e w1 ⟨rfl, hb1⟩
    have hp := HP.out w1 hb1
    have HB1 : Hid (Below w.heap.size w w1) := hb1
    have hs1 := hb1.size
    clear hlv hb1 HP
    go_wp2_with fail
    refine hp.mono ?_
    rintro e w2 ⟨rfl, hb2⟩
    have HB2 : Hid (Below w.heap.size w w2) := HB1.out.trans (hb2.mono hs1)
    clear hp hb2
    go_wp2
    go_ret
    exact ⟨rfl, HB2.out⟩
  | inl L =>
    rw [hpp] at hmade
    obtain ⟨hcan, hsum⟩ : Canon 64 L ∧ (L.map (cnt 64)).sum ≤ 4096 := hmade
    obtain ⟨hchk, hfor⟩ := made_chk hcan hsum
    have HP : Hid (∀ W, Below w.heap.size w W → Calls Tryz.prog 9 #[.string tx] W (PPost W (.inl L))) := fun W hW => by
      have := parse_any W tx (Nat.lt_of_lt_of_le h0 hW.size) m (HM.out W hW)
      rwa [hpp] at this
    have HPR : Hid (printP 64 L = if 262144 < (prF 64 L).length then ([], 2) else (prF 64 L, 0)) := by show printP 64 L = _; unfold printP; rw [if_pos hfor]
    have HCHK : Hid (∀ t ∈ L, (chk 64 t 1 0).2 = 0) := hchk
    have HCAN : Hid (Canon 64 L) := hcan
    have HSUM : Hid ((L.map (cnt 64)).sum ≤ 4096) := hsum
    have HPPR : Hid ((prF 64 L).length ≤ 262144 → parseP (prF 64 L) = .inl L) := fun h => parse_print hcan hsum h
    clear hpp hcan hsum hchk hfor
    go_enter Tryz.func5, Tryz.ntmps5
    go_wp2_with fail
    refine hlv.mono ?_
    rintro e w1 ⟨rfl, hb1⟩
    have hp := HP.out w1 hb1
    have HB1 : Hid (Below w.heap.size w w1) := hb1
    have hs1 := hb1.size
    clear hlv hb1 HP
    go_wp2_with fail
    refine hp.mono ?_
    intro e w2 hp2
    obtain ⟨a, cap, rfl, hk, hl, hb2⟩ := ppost_kids hp2
    have HL : Hid (L.length ≤ maxK) := hl
    have HK2 : Hid (Tc.KidsAt w2 0 w2.heap.size 64 a L) := hk
    have HB2 : Hid (Below w.heap.size w w2) := HB1.out.trans (hb2.mono hs1)
    have hs2 := HB2.out.size
    have hnm := norm_all 64 w2 0 a L cap hk hl (fun t ht => (HCAN.out.1 t ht).1) HCAN.out.2
    clear hp hp2 hk hl hb2
    go_wp2_with fail
    refine hnm.mono ?_
    rintro e w3 ⟨rfl, hb3⟩
    have HB23 : Hid (Below w2.heap.size w2 w3) := hb3
    have HB3 : Hid (Below w.heap.size w w3) := HB2.out.trans (hb3.mono hs2)
    have hsz := size_all 64 w3 0 a L cap (HK2.out.after hb3) HSUM.out
    have hs3 := hb3.size
    have hsm : ¬ (4096 : Int) < (((L.map (cnt 64)).sum : Nat) : Int) := by have := HSUM.out; omega
    clear hnm hb3
    generalize (L.map (cnt 64)).sum = sm at *
    go_wp2_with fail
    refine hsz.mono ?_
    rintro e w4 ⟨rfl, hb4⟩
    have HB24 : Hid (Below w2.heap.size w2 w4) := HB23.out.trans (hb4.mono hs3)
    clear hsz hb4 HB23 HB3
    have hl1 : L.length ≤ 1599289640401 := HL.out
    go_wp2
    go_loopw [6] (fun v6 wr => ∃ i : Nat, i ≤ L.length ∧ v6 = .int .i64 (i : Int) ∧ Hid (Below w2.heap.size w2 wr)) (fun v6 _ => L.length - (intOf v6).toNat)
    case atStart => exact ⟨0, by omega, rfl, HB24⟩
    case round =>
      obtain ⟨i, hi, rfl, hb⟩ := hrel
      have hsr := hb.out.size
      have hKr := HK2.out.after hb.out
      by_cases hlt : i < L.length
      · have t1 : (i : Int) < (L.length : Int) := by omega
        have t0 : (0 : Int) ≤ (i : Int) := by omega
        obtain ⟨k, hk⟩ : ∃ k, L[i]? = some k := ⟨_, List.getElem?_eq_getElem hlt⟩
        obtain ⟨b, o, kk, nm, aa, al, ac, tx2, ka', kl, kc, rfl, -, hbl, c0, c1, c2, c3, c4, hT⟩ := hKr.get hk
        have hck := Tc.Check_any 64 wr _ k 0 wr.heap.size hT (Nat.le_refl _)
        rw [HCHK.out k (List.mem_of_getElem? hk)] at hck
        clear hk hT hKr
        go_wp2_with fail
        refine hck.mono ?_
        rintro e w5 ⟨rfl, hb5⟩
        have HB5 : Hid (Below w2.heap.size w2 w5) := hb.out.trans (hb5.mono hsr)
        clear hck hb5 c0 c1 c2 c3 c4
        go_wp2
        refine ⟨⟨i + 1, by omega, by simp, HB5⟩, ?_⟩
        simp [intOf]; omega
      · have t1 : ¬ (i : Int) < (L.length : Int) := by omega
        have hpr := print_any 64 wr 0 a L cap hKr HL.out
        clear hKr
        by_cases hlen : 262144 < (prF 64 L).length
        · rw [HPR.out, if_pos hlen] at hpr
          clear hlen
          simp only at hpr
          go_wp2_with fail
          refine hpr.mono ?_
          rintro e w5 ⟨rfl, hb5⟩
          have HB5 : Hid (Below w2.heap.size w2 w5) := hb.out.trans (hb5.mono hsr)
          clear hpr hb5
          go_wp2
          go_ret
          exact ⟨rfl, HB2.out.trans (HB5.out.mono hs2)⟩
        · rw [HPR.out, if_neg hlen] at hpr
          have HPP : Hid (parseP (prF 64 L) = .inl L) := HPPR.out (by omega)
          have HPR2 : Hid (printP 64 L = (prF 64 L, 0)) := by show _ = _; rw [HPR.out, if_neg hlen]
          clear hlen HPR
          obtain ⟨S, hS⟩ : ∃ S : ByteArray, S = ⟨(prF 64 L).toArray⟩ := ⟨_, rfl⟩
          have hSd : S.data.toList = prF 64 L := by rw [hS]
          have HS2 : Hid (⟨(printP 64 L).1.toArray⟩ = S ∧ (printP 64 L).2 = 0) := ⟨by rw [HPR2.out, hS], by rw [HPR2.out]⟩
          simp only at hpr
          rw [← hS] at hpr
          have HPS : Hid (∀ W, Below w2.heap.size w2 W → Calls Tryz.prog 9 #[.string S] W (PPost W (.inl L))) := fun W hW => by
            have := parse_any W S (by have := hW.size; omega) m (HM.out W (HB2.out.trans (hW.mono hs2)))
            rwa [hSd, HPP.out] at this
          clear hS hSd HPP HPR2
          go_wp2_with fail
          refine hpr.mono ?_
          rintro e w5 ⟨rfl, hb5⟩
          have HB5 : Hid (Below w2.heap.size w2 w5) := hb.out.trans (hb5.mono hsr)
          have hs5 := HB5.out.size
          have hp5 := HPS.out w5 HB5.out
          clear hpr hb5 HPS
          go_wp2_with fail
          refine hp5.mono ?_
          intro e w6 hp6
          obtain ⟨a6, cap6, rfl, hk6, hl6, hb6⟩ := ppost_kids hp6
          have HB6 : Hid (Below w2.heap.size w2 w6) := HB5.out.trans (hb6.mono hs5)
          have hs6 := HB6.out.size
          have hpr6 := print_any 64 w6 0 a6 L cap6 hk6 hl6
          rw [HS2.out.1, HS2.out.2] at hpr6
          have HK6 : Hid (Tc.KidsAt w6 0 w6.heap.size 64 a6 L) := hk6
          clear hp5 hp6 hk6 hl6 hb6
          go_wp2_with fail
          refine hpr6.mono ?_
          rintro e w7 ⟨rfl, hb7⟩
          have HB7 : Hid (Below w2.heap.size w2 w7) := HB6.out.trans (hb7.mono hs6)
          have hs7 := HB7.out.size
          have hsame := Same_any w7 0 0 a6 a L cap6 cap (HK6.out.after hb7) (HK2.out.after HB7.out) HL.out
          have n9 : (S.toList == S.toList) = true := by simp
          clear hpr6 hb7
          go_wp2_with fail
          refine hsame.mono ?_
          rintro e w8 ⟨rfl, hb8⟩
          have HB8 : Hid (Below w2.heap.size w2 w8) := HB7.out.trans (hb8.mono hs7)
          clear hsame hb8
          go_wp2
          go_ret
          exact ⟨rfl, HB2.out.trans (HB8.out.mono hs2)⟩

end Go.Proofs.YtmifejkddgcbmaaGreat
