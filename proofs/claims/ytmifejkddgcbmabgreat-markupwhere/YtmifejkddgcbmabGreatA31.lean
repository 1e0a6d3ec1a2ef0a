/- A fault has a name: what is told of it is never OK. -/
import Derived.Test.YtmifejkddgcbmabGreatA30
import Derived.Lib.Bytealg
namespace Go.Proofs.YtmifejkddgcbmabGreat
open Go.RowKit
set_option linter.unusedVariables false
set_option linter.unusedSimpArgs false

theorem letter_ne {l : Bs} {s : St} {p : Nat} {e : Int} (h : letterP l s = .inr (p, e)) : e ≠ 0 := by
  unfold letterP at h
  split at h
  · cases h; decide
  · split at h
    · split at h
      · simp at h
      · rename_i h0; cases h; exact h0
    · split at h
      · simp at h
      · cases h; decide
theorem begin_nz {s : St} {a p : Nat} {e : Int} (h : beginP s a = .inr (p, e)) : e ≠ 0 := by
  unfold beginP at h
  split at h
  · cases h; decide
  · simp at h
theorem grow_ne {s : St} {out x : Bs} {a p : Nat} {e : Int} (h : growP s out x a = .inr (p, e)) : e ≠ 0 := by
  unfold growP at h
  split at h
  · cases h; decide
  · simp at h
theorem put_ne {s : St} {out x : Bs} {a p : Nat} {e : Int} (h : putP s out x a = .inr (p, e)) : e ≠ 0 := by
  unfold putP at h
  by_cases ho : out = []
  · rw [if_pos ho] at h
    cases hb : beginP s a with
    | inl q => obtain ⟨u, s1⟩ := q; rw [hb] at h; exact grow_ne h
    | inr q => obtain ⟨p2, e2⟩ := q; rw [hb] at h; cases h; exact begin_nz hb
  · rw [if_neg ho] at h
    exact grow_ne h
theorem puts_ne : ∀ (x : Bs) (s : St) (out : Bs) (a p : Nat) (e : Int), putsP s out x a = .inr (p, e) → e ≠ 0
  | [], s, out, a, p, e, h => by rw [putsP] at h; simp at h
  | b :: r, s, out, a, p, e, h => by
    rw [putsP] at h
    cases hp : putP s out [b] a with
    | inr q => obtain ⟨p2, e2⟩ := q; rw [hp] at h; cases h; exact put_ne hp
    | inl q => obtain ⟨o2, s2⟩ := q; rw [hp] at h; exact puts_ne r s2 o2 (a + 1) p e h
theorem rawF_ne : ∀ (k : Nat) (s : St) (out x : Bs) (a p : Nat) (e : Int), rawF k s out x a = .inr (p, e) → e ≠ 0
  | 0, s, out, x, a, p, e, h => by rw [rawF] at h; simp at h
  | k + 1, s, out, x, a, p, e, h => by
    rw [rawF] at h
    by_cases hx : x = []
    · rw [if_pos hx] at h; simp at h
    · rw [if_neg hx] at h
      cases hf : first x with
      | none => rw [hf] at h; cases h; decide
      | some q =>
        obtain ⟨r, n⟩ := q
        rw [hf] at h
        simp only at h
        cases hp : putsP s out (x.take n) a with
        | inr q => obtain ⟨p2, e2⟩ := q; rw [hp] at h; cases h; exact puts_ne _ _ _ _ _ _ hp
        | inl q => obtain ⟨o2, s2⟩ := q; rw [hp] at h; exact rawF_ne k s2 o2 (x.drop n) (a + n) p e h
theorem skip_ne {l : Bs} {n : Nat} {q : Bs} {s : St} {p : Nat} {e : Int} (h : skipP l n q s = .inr (p, e)) : e ≠ 0 := by
  unfold skipP at h
  split at h
  · cases h; decide
  · simp at h
theorem tag_ne {l : Bs} {s : St} {p : Nat} {e : Int} (h : tagP l s = .inr (p, e)) : e ≠ 0 := by
  unfold tagP at h
  split at h
  · cases h; decide
  · split at h
    · simp at h
    · split at h
      · split at h
        · simp at h
        · cases h; decide
      · cases h; decide
theorem words_ne {l : Bs} : ∀ (k : Nat) (s : St) (out : Bs) (p : Nat) (e : Int), wordsF l k s out = .inr (p, e) → e ≠ 0
  | 0, s, out, p, e, h => by rw [wordsF] at h; simp at h
  | k + 1, s, out, p, e, h => by
    rw [wordsF] at h
    cases hg : l[s.at_]? with
    | none => rw [hg] at h; simp at h
    | some b =>
      rw [hg] at h
      simp only at h
      split at h
      · cases hlt : letterP l s with
        | inr q => obtain ⟨p2, e2⟩ := q; rw [hlt] at h; cases h; exact letter_ne hlt
        | inl q =>
          obtain ⟨x, s2⟩ := q
          rw [hlt] at h
          simp only at h
          cases hp : putP s2 out x s.at_ with
          | inr q => obtain ⟨p2, e2⟩ := q; rw [hp] at h; cases h; exact put_ne hp
          | inl q => obtain ⟨o3, s3⟩ := q; rw [hp] at h; exact words_ne k s3 o3 p e h
      · split at h
        · cases hsk : skipP l 4 [45, 45, 62] s with
          | inr q => obtain ⟨p2, e2⟩ := q; rw [hsk] at h; cases h; exact skip_ne hsk
          | inl q => obtain ⟨x, s2⟩ := q; rw [hsk] at h; exact words_ne k _ out p e h
        · split at h
          · cases hsk : skipP l 2 [63, 62] s with
            | inr q => obtain ⟨p2, e2⟩ := q; rw [hsk] at h; cases h; exact skip_ne hsk
            | inl q => obtain ⟨x, s2⟩ := q; rw [hsk] at h; exact words_ne k _ out p e h
          · split at h
            · cases hr : rawP l s out with
              | inr q =>
                obtain ⟨p2, e2⟩ := q
                rw [hr] at h
                cases h
                unfold rawP at hr
                cases hsk : skipP l 9 [93, 93, 62] s with
                | inr q => obtain ⟨p3, e3⟩ := q; rw [hsk] at hr; cases hr; exact skip_ne hsk
                | inl q => obtain ⟨x, s3⟩ := q; rw [hsk] at hr; exact rawF_ne _ _ _ _ _ _ _ hr
              | inl q => obtain ⟨o2, s2⟩ := q; rw [hr] at h; exact words_ne k s2 o2 p e h
            · cases ht : tagP l s with
              | inr q => obtain ⟨p2, e2⟩ := q; rw [ht] at h; cases h; exact tag_ne ht
              | inl q => obtain ⟨u, s2⟩ := q; rw [ht] at h; simp at h
theorem valueF_ne {l : Bs} {q : UInt8} : ∀ (k : Nat) (s : St) (out : Bs) (p : Nat) (e : Int), valueF l q k s out = .inr (p, e) → e ≠ 0
  | 0, s, out, p, e, h => by rw [valueF] at h; simp at h
  | k + 1, s, out, p, e, h => by
    rw [valueF] at h
    cases hg : l[s.at_]? with
    | none => rw [hg] at h; cases h; decide
    | some b =>
      rw [hg] at h
      simp only at h
      split at h
      · simp at h
      · split at h
        · cases h; decide
        · cases hlt : letterP l s with
          | inr q => obtain ⟨p2, e2⟩ := q; rw [hlt] at h; cases h; exact letter_ne hlt
          | inl q2 =>
            obtain ⟨x, s2⟩ := q2
            rw [hlt] at h
            simp only at h
            cases hp : growP s2 out x s.at_ with
            | inr q => obtain ⟨p2, e2⟩ := q; rw [hp] at h; cases h; exact grow_ne hp
            | inl q3 => obtain ⟨o3, s3⟩ := q3; rw [hp] at h; exact valueF_ne k s3 o3 p e h
theorem valueP_ne {l : Bs} {s : St} {p : Nat} {e : Int} (h : valueP l s = .inr (p, e)) : e ≠ 0 := by
  unfold valueP at h
  split at h
  · cases h; decide
  · split at h
    · exact valueF_ne _ _ _ _ _ h
    · cases h; decide
theorem name_ne {l : Bs} {s : St} {p : Nat} {e : Int} (h : nameP l s = .inr (p, e)) : e ≠ 0 := by
  unfold nameP at h
  split at h
  · cases h; decide
  · split at h
    · split at h
      · simp at h
      · cases h; decide
    · cases h; decide
theorem expect_ne {l : Bs} {c : UInt8} {s : St} {p : Nat} {e : Int} (h : expectP l c s = .inr (p, e)) : e ≠ 0 := by
  unfold expectP at h
  split at h
  · split at h
    · simp at h
    · cases h; decide
  · cases h; decide
theorem attrP_ne {l : Bs} {L : List Att} {s : St} {p : Nat} {e : Int} (h : attrP l L s = .inr (p, e)) : e ≠ 0 := by
  unfold attrP at h
  cases hn : nameP l s with
  | inr q => obtain ⟨p2, e2⟩ := q; rw [hn] at h; cases h; exact name_ne hn
  | inl q =>
    obtain ⟨n, s2⟩ := q
    rw [hn] at h
    simp only at h
    split at h
    · cases h; decide
    · split at h
      · cases h; decide
      · cases hx : expectP l 61 s2 with
        | inr q => obtain ⟨p2, e2⟩ := q; rw [hx] at h; cases h; exact expect_ne hx
        | inl q =>
          obtain ⟨u, s3⟩ := q
          rw [hx] at h
          simp only at h
          cases hv : valueP l s3 with
          | inr q => obtain ⟨p2, e2⟩ := q; rw [hv] at h; cases h; exact valueP_ne hv
          | inl q => obtain ⟨v, s4⟩ := q; rw [hv] at h; simp at h
theorem attrsF_ne {l : Bs} : ∀ (k : Nat) (s : St) (acc : List Att) (p : Nat) (e : Int), attrsF l k s acc = .inr (p, e) → e ≠ 0
  | 0, s, acc, p, e, h => by rw [attrsF] at h; simp at h
  | k + 1, s, acc, p, e, h => by
    rw [attrsF] at h
    cases hg : l[(blanksP l s).at_]? with
    | none => rw [hg] at h; cases h; decide
    | some b =>
      rw [hg] at h
      simp only at h
      split at h
      · simp at h
      · split at h
        · cases h; decide
        · cases ha : attrP l acc (blanksP l s) with
          | inr q => obtain ⟨p2, e2⟩ := q; rw [ha] at h; cases h; exact attrP_ne ha
          | inl q => obtain ⟨a, s2⟩ := q; rw [ha] at h; exact attrsF_ne k s2 (acc ++ [a]) p e h
theorem endP_ne {l n : Bs} {s : St} {p : Nat} {e : Int} (h : endP l n s = .inr (p, e)) : e ≠ 0 := by
  unfold endP at h
  cases h1 : expectP l 60 s with
  | inr q => obtain ⟨p2, e2⟩ := q; rw [h1] at h; cases h; exact expect_ne h1
  | inl q =>
    obtain ⟨u1, s2⟩ := q
    rw [h1] at h
    simp only at h
    cases h2 : expectP l 47 s2 with
    | inr q => obtain ⟨p2, e2⟩ := q; rw [h2] at h; cases h; exact expect_ne h2
    | inl q =>
      obtain ⟨u2, s3⟩ := q
      rw [h2] at h
      simp only at h
      cases h3 : nameP l s3 with
      | inr q => obtain ⟨p2, e2⟩ := q; rw [h3] at h; cases h; exact name_ne h3
      | inl q =>
        obtain ⟨nn, s4⟩ := q
        rw [h3] at h
        simp only at h
        split at h
        · exact expect_ne h
        · cases h; decide
theorem elem_ne {l : Bs} {d : Nat} {sb : St → Rs (List (T d))} (hsb : ∀ s p e, sb s = .inr (p, e) → e ≠ 0) {s : St} {p : Nat} {e : Int} (h : elemP l sb s = .inr (p, e)) : e ≠ 0 := by
  unfold elemP at h
  cases hb : beginP s s.at_ with
  | inr q => obtain ⟨p2, e2⟩ := q; rw [hb] at h; cases h; exact begin_nz hb
  | inl q =>
    obtain ⟨u, s1⟩ := q
    rw [hb] at h
    simp only at h
    cases hn : nameP l { s1 with at_ := s1.at_ + 1 } with
    | inr q => obtain ⟨p2, e2⟩ := q; rw [hn] at h; cases h; exact name_ne hn
    | inl q =>
      obtain ⟨n, s2⟩ := q
      rw [hn] at h
      simp only at h
      cases ha : attrsP l s2 with
      | inr q => obtain ⟨p2, e2⟩ := q; rw [ha] at h; cases h; exact attrsF_ne _ _ _ _ _ ha
      | inl q =>
        obtain ⟨a, s3⟩ := q
        rw [ha] at h
        simp only at h
        cases hg : l[s3.at_]? with
        | none => rw [hg] at h; cases h; decide
        | some b =>
          rw [hg] at h
          simp only at h
          split at h
          · cases hx : expectP l 62 { s3 with at_ := s3.at_ + 1 } with
            | inr q => obtain ⟨p2, e2⟩ := q; rw [hx] at h; cases h; exact expect_ne hx
            | inl q => obtain ⟨u2, s4⟩ := q; rw [hx] at h; simp at h
          · cases hx : expectP l 62 s3 with
            | inr q => obtain ⟨p2, e2⟩ := q; rw [hx] at h; cases h; exact expect_ne hx
            | inl q =>
              obtain ⟨u2, s4⟩ := q
              rw [hx] at h
              simp only at h
              cases hk : sb { s4 with op := s4.op + 1 } with
              | inr q => obtain ⟨p2, e2⟩ := q; rw [hk] at h; cases h; exact hsb _ _ _ hk
              | inl q =>
                obtain ⟨x, s5⟩ := q
                rw [hk] at h
                simp only at h
                cases he : endP l n { s5 with op := s5.op - 1 } with
                | inr q => obtain ⟨p2, e2⟩ := q; rw [he] at h; cases h; exact endP_ne he
                | inl q => obtain ⟨u3, s6⟩ := q; rw [he] at h; simp at h
theorem sibF_ne {l : Bs} {d : Nat} {el : St → Rs (T (d + 1))} (hel : ∀ s p e, el s = .inr (p, e) → e ≠ 0) : ∀ (k : Nat) (s : St) (acc : List (T (d + 1))) (p : Nat) (e : Int), sibF l el k s acc = .inr (p, e) → e ≠ 0
  | 0, s, acc, p, e, h => by rw [sibF] at h; simp at h
  | k + 1, s, acc, p, e, h => by
    rw [sibF] at h
    cases hw : wordsP l s with
    | inr q => obtain ⟨p2, e2⟩ := q; rw [hw] at h; cases h; exact words_ne _ _ _ _ _ hw
    | inl q =>
      obtain ⟨t, s1⟩ := q
      rw [hw] at h
      simp only at h
      split at h
      · simp at h
      · cases hx : el s1 with
        | inr q => obtain ⟨p2, e2⟩ := q; rw [hx] at h; cases h; exact hel _ _ _ hx
        | inl q => obtain ⟨x, s2⟩ := q; rw [hx] at h; exact sibF_ne hel k s2 _ p e h
theorem sib_ne (l : Bs) : ∀ (d : Nat) (s : St) (p : Nat) (e : Int), sibP l d s = .inr (p, e) → e ≠ 0
  | 0, s, p, e, h => by
    rw [sibP] at h
    cases hw : wordsP l s with
    | inr q => obtain ⟨p2, e2⟩ := q; rw [hw] at h; cases h; exact words_ne _ _ _ _ _ hw
    | inl q =>
      obtain ⟨t, s1⟩ := q
      rw [hw] at h
      simp only at h
      split at h
      · simp at h
      · cases h; decide
  | d + 1, s, p, e, h => sibF_ne (fun s p e he => elem_ne (fun s p e hs => sib_ne l d s p e hs) he) _ s [] p e h
theorem parse_ne {l : Bs} {p : Nat} {e : Int} (h : parseP l = .inr (p, e)) : e ≠ 0 := by
  unfold parseP at h
  split at h
  · cases h; decide
  · unfold forestP at h
    cases hs : sibP l 64 ⟨0, 0, 0⟩ with
    | inr q => obtain ⟨p2, e2⟩ := q; rw [hs] at h; cases h; exact sib_ne l 64 _ _ _ hs
    | inl q =>
      obtain ⟨x, s⟩ := q
      rw [hs] at h
      simp only at h
      by_cases ha : s.at_ < l.length
      · rw [if_pos ha] at h
        cases he : endP l [] s with
        | inr q => obtain ⟨p2, e2⟩ := q; rw [he] at h; cases h; exact endP_ne he
        | inl q => obtain ⟨u, s1⟩ := q; rw [he] at h; simp at h
      · rw [if_neg ha] at h; simp at h

end Go.Proofs.YtmifejkddgcbmabGreat

/- One form: of any text that is markup the forest can be, is normal, and printed and parsed again it is the same. -/
namespace Go.Proofs.YtmifejkddgcbmabGreat
open Go.RowKit
set_option linter.unusedVariables false
set_option linter.unusedSimpArgs false

/-- What Parse tells of a text that is markup, as data. -/
theorem ppost_kids {w : World} {L : List (T 64)} {e : Ending} {w' : World} (h : PPost w (.inl L) e w') : ∃ a cap, e = .returned (.tuple #[.slice a L.length cap, .int .i64 0, .int .i64 0]) ∧ Tc.KidsAt w' 0 w'.heap.size 64 a L ∧ L.length ≤ maxK ∧ Below w.heap.size w w' := by
  obtain ⟨a, cap, xs, Rf, rfl, h2, h3, h4, h5, h6⟩ := h
  exact ⟨a, cap, rfl, ForS.at h3 h4 (fun b hb => (h5 b hb).2.1), by unfold maxK; omega, h6⟩

set_option maxRecDepth 100000 in
set_option maxHeartbeats 4000000 in
theorem lives_any (w : World) (h0 : 0 < w.heap.size) (m : Int) (hm : w.cell? ⟨0, 0, none⟩ = some (.int .i64 m)) : Calls Tryz.prog 5 #[] w fun e w' => e = .returned (.bool true) ∧ Below w.heap.size w w' := by
  have hp := parse_any w ⟨#[60, 97, 32, 98, 61, 39, 49, 39, 62, 120, 60, 33, 45, 45, 32, 121, 32, 45, 45, 62, 122, 60, 99, 47, 62, 60, 47, 97, 62]⟩ h0 m hm
  rw [show parseP (⟨#[60, 97, 32, 98, 61, 39, 49, 39, 62, 120, 60, 33, 45, 45, 32, 121, 32, 45, 45, 62, 122, 60, 99, 47, 62, 60, 47, 97, 62]⟩ : ByteArray).data.toList = .inl liveF from live_parse] at hp
  have HM : Hid (w.cell? ⟨0, 0, none⟩ = some (.int .i64 m)) := hm
  clear hm
  go_enter Tryz.func5, Tryz.ntmps5
  go_wp2_with fail
  refine hp.mono ?_
  intro e w1 hp1
  obtain ⟨a, cap, rfl, hk, hl, hb1⟩ := ppost_kids hp1
  have hpr := print_any 64 w1 0 a liveF cap hk hl
  rw [live_print] at hpr
  have hlen : liveF.length = 1 := rfl
  rw [hlen] at hpr ⊢
  have hx : (⟨live2.toArray⟩ : ByteArray) = ⟨#[60, 97, 32, 98, 61, 34, 49, 34, 62, 120, 122, 60, 99, 47, 62, 60, 47, 97, 62]⟩ := rfl
  simp only [hx] at hpr
  obtain ⟨b, o, aa, ac, ka, kc, rfl, hbl, c0, -⟩ := kids_get hk (i := 0) (k := elT [97] [(ba [98], ba [49])] [txtT [120, 122], elT [99] [] []]) rfl
  have c0' : w1.cell? ⟨b, o, none⟩ = some (.int .i64 1) := by simpa [elT] using c0
  have HB1 : Hid (Below w.heap.size w w1) := hb1
  have hs1 := hb1.size
  clear hp hp1 hk hl hb1 c0 hx
  go_wp2_with fail
  refine hpr.mono ?_
  rintro e w2 ⟨rfl, hb2⟩
  have d0 := (hb2.cell (p := ⟨b, o, none⟩) hbl).trans c0'
  have HB2 : Hid (Below w.heap.size w w2) := HB1.out.trans (hb2.mono hs1)
  have hs2 := HB2.out.size
  have hbl2 : b < w2.heap.size := by have := hb2.size; omega
  have hq := parse_any w2 ⟨#[60, 97, 62, 60, 47, 98, 62]⟩ (by omega) m ((HB2.out.cell (p := ⟨0, 0, none⟩) h0).trans HM.out)
  rw [show parseP (⟨#[60, 97, 62, 60, 47, 98, 62]⟩ : ByteArray).data.toList = .inr (3, 40) from live_bad] at hq
  clear hpr hb2 c0'
  go_wp2_with fail
  refine hq.mono ?_
  rintro e w3 ⟨rfl, hb3⟩
  have f0 := (hb3.cell (p := ⟨b, o, none⟩) hbl2).trans d0
  have HB3 : Hid (Below w.heap.size w w3) := HB2.out.trans (hb3.mono hs2)
  clear hq hb3 d0
  go_wp2
  go_ret
  exact ⟨rfl, HB3.out⟩

end Go.Proofs.YtmifejkddgcbmabGreat

/- Lines and columns. -/
namespace Go.Proofs.YtmifejkddgcbmabGreat
open Go.RowKit
set_option linter.unusedVariables false
set_option linter.unusedSimpArgs false

/-- The last place of a byte ahead of place k; -1: there is none. -/
def lastK (l : Bs) (c : UInt8) : Nat → Int
  | 0 => -1
  | k + 1 => if l[k]? = some c then (k : Int) else lastK l c k
def lastI (l : Bs) (c : UInt8) : Int := lastK l c l.length
theorem lastK_bd (l : Bs) (c : UInt8) : ∀ k, -1 ≤ lastK l c k ∧ lastK l c k < k
  | 0 => by simp [lastK]
  | k + 1 => by
    have := lastK_bd l c k
    rw [lastK]
    split <;> omega
theorem lastK_app (l m : Bs) (c : UInt8) : ∀ k, k ≤ l.length → lastK (l ++ m) c k = lastK l c k
  | 0, _ => rfl
  | k + 1, h => by
    rw [lastK, lastK, List.getElem?_append_left (by omega), lastK_app l m c k (by omega)]
theorem last_snoc (l : Bs) (b c : UInt8) : lastI (l ++ [b]) c = if b = c then (l.length : Int) else lastI l c := by
  unfold lastI
  rw [List.length_append, List.length_singleton, lastK, lastK_app _ _ _ _ (Nat.le_refl _)]
  simp
theorem count_last (c : UInt8) : ∀ l : Bs, ((l.reverse.count c : Nat) : Int) ≤ lastI l.reverse c + 1
  | [] => by simp [lastI, lastK]
  | b :: r => by
    have ih := count_last c r
    have hb := lastK_bd r.reverse c r.reverse.length
    have hl : lastI r.reverse c = lastK r.reverse c r.reverse.length := rfl
    have hle : r.reverse.count c ≤ r.reverse.length := List.count_le_length
    rw [List.reverse_cons, last_snoc, List.count_append]
    by_cases e : b = c
    · rw [if_pos e, e]
      simp only [List.count_singleton_self]
      omega
    · rw [if_neg e]
      have : [b].count c = 0 := by simp [e]
      rw [this]
      omega
theorem count_le_last (c : UInt8) (l : Bs) : ((l.count c : Nat) : Int) ≤ lastI l c + 1 := by
  have := count_last c l.reverse
  rwa [List.reverse_reverse] at this

set_option maxRecDepth 100000 in
set_option maxHeartbeats 1000000 in
theorem lastIndex_any (w : World) (s : ByteArray) (hs : s.size < 1152921504606846976) : Calls Tryz.prog 24 #[.string s, .int .u8 10] w fun e w' => e = .returned (.int .i64 (lastI s.data.toList 10)) ∧ w' = w := by
  have HS : Hid (lastI s.data.toList 10 = lastK s.data.toList 10 s.size) := by show _ = _; unfold lastI; rw [size_list]
  go_enter Tryz.func24, Tryz.ntmps24
  go_wp2
  go_loop [5] (fun v5 => ∃ k : Nat, k ≤ s.size ∧ v5 = .int .i64 ((k : Int) - 1) ∧ Hid (lastK s.data.toList 10 s.size = lastK s.data.toList 10 k)) (fun v5 => (intOf v5 + 1).toNat)
  case atStart => exact ⟨s.size, Nat.le_refl _, rfl, rfl⟩
  case round =>
    obtain ⟨k, hk, rfl, hg⟩ := hrel
    cases k with
    | zero =>
      have HE : Hid (lastI s.data.toList 10 = -1) := by show _ = _; rw [HS.out, hg.out]; rfl
      clear hg HS
      have t1 : ¬ (0 : Int) ≤ -1 := by omega
      go_wp2
      go_ret
      exact ⟨by rw [HE.out]; rfl, rfl⟩
    | succ j =>
      have hlt : j < s.size := by omega
      have t0 : (0 : Int) ≤ (j : Int) := by omega
      have t1 : (j : Int) < (s.size : Int) := by omega
      have hgj : s.data.toList[j]? = some (s[j]'hlt) := get_some hlt
      have e0 : ((j + 1 : Nat) : Int) - 1 = (j : Int) := by omega
      rw [e0]
      by_cases hb : (s[j]'hlt) = 10
      · have HE : Hid (lastI s.data.toList 10 = (j : Int)) := by show _ = _; rw [HS.out, hg.out, lastK, hgj, if_pos (by rw [hb])]
        have hbn : (((s[j]'hlt).toNat : Int) == 10) = true := by rw [hb]; rfl
        clear hg HS hgj
        go_wp2
        go_ret
        exact ⟨by rw [HE.out]; rfl, rfl⟩
      · have HG : Hid (lastK s.data.toList 10 s.size = lastK s.data.toList 10 j) := by show _ = _; rw [hg.out, lastK, hgj, if_neg (fun e => hb (Option.some.inj e))]
        have hbn : (((s[j]'hlt).toNat : Int) == 10) = false := by
          rw [beq_eq_false_iff_ne]
          intro e
          exact hb (UInt8.toNat_inj.1 (by show (s[j]'hlt).toNat = 10; omega))
        clear hg HS hgj hb
        go_wp2
        go_round
        case rel => exact ⟨j, by omega, rfl, HG⟩
        case measure => simp [intOf]

set_option maxRecDepth 100000 in
set_option maxHeartbeats 1000000 in
theorem LastIndex_any (w : World) (s : ByteArray) (hs : s.size < 1152921504606846976) : Calls Tryz.prog 12 #[.string s, .int .u8 10] w fun e w' => e = .returned (.int .i64 (lastI s.data.toList 10)) ∧ w' = w := by
  have h := lastIndex_any w s hs
  generalize lastI s.data.toList 10 = z at *
  go_enter Tryz.func12, Tryz.ntmps12
  go_wp2_with fail
  refine h.mono ?_
  rintro e w1 ⟨rfl, rfl⟩
  go_wp2
  go_ret
  exact ⟨rfl, rfl⟩

set_option maxRecDepth 100000 in
set_option maxHeartbeats 1000000 in
theorem Count_any (w : World) (s : ByteArray) : Calls Tryz.prog 13 #[.string s, .string ⟨#[10]⟩] w fun e w' => e = .returned (.int .i64 ((s.data.toList.count 10 : Nat) : Int)) ∧ w' = w := by
  go_enter Tryz.func13, Tryz.ntmps13
  go_wp2
  rw [run_callFunc_extern Tryz.func26 (by kernel_rfl) (by kernel_rfl) (by kernel_rfl) (e := Extern.BytealgCount.count) (by kernel_rfl), Lib.run_countString]
  simp only [Result.andThen]
  rw [Oper.upon_value]
  go_wp2
  go_ret
  exact ⟨rfl, rfl⟩

/-- The line and the column behind so many bytes. -/
def lineP (l : Bs) (a : Nat) : Int := 1 + ((l.take a).count 10 : Nat)
def colP (l : Bs) (a : Nat) : Int := (a : Int) - lastI (l.take a) 10

set_option maxRecDepth 100000 in
set_option maxHeartbeats 1000000 in
theorem where_any (w : World) (s : ByteArray) (hs : s.size < 1152921504606846976) (a : Nat) (ha : a ≤ s.size) : Calls Tryz.prog 6 #[.string s, .int .i64 (a : Int)] w fun e w' => e = .returned (.tuple #[.int .i64 (lineP s.data.toList a), .int .i64 (colP s.data.toList a), .int .i64 0]) ∧ w' = w := by
  have hex : (s.extract 0 a).data.toList = s.data.toList.take a := by simp [ByteArray.data_extract, Array.toList_extract, List.extract_eq_take_drop]
  have hsz : (s.extract 0 a).size = a := by simp; omega
  have h1 := LastIndex_any w (s.extract 0 a) (by omega)
  have h2 := Count_any w (s.extract 0 a)
  rw [hex] at h1 h2
  have hbd := lastK_bd (s.data.toList.take a) 10 (s.data.toList.take a).length
  have hlen : (s.data.toList.take a).length = a := by rw [List.length_take, size_list]; omega
  have hcl : (s.data.toList.take a).count 10 ≤ (s.data.toList.take a).length := List.count_le_length
  rw [hlen] at hbd hcl
  have HL : Hid (lineP s.data.toList a = 1 + ((s.data.toList.take a).count 10 : Nat)) := rfl
  have HC : Hid (colP s.data.toList a = (a : Int) - lastI (s.data.toList.take a) 10) := rfl
  have hz1 : -1 ≤ lastI (s.data.toList.take a) 10 ∧ lastI (s.data.toList.take a) 10 < a := by unfold lastI; rw [hlen]; exact hbd
  obtain ⟨z1, z2⟩ := hz1
  generalize lastI (s.data.toList.take a) 10 = z at *
  generalize (s.data.toList.take a).count 10 = n at *
  have t1 : ¬ (a : Int) < 0 := by omega
  have t2 : ¬ (s.size : Int) < (a : Int) := by omega
  have t3 : (a : Int) ≤ (s.size : Int) := by omega
  have t4 : (0 : Int) ≤ (a : Int) := by omega
  have HSZ : Hid ((s.extract 0 a).size = a) := hsz
  clear hex hbd hlen hsz
  generalize lineP s.data.toList a = LP at *
  generalize colP s.data.toList a = CP at *
  go_enter Tryz.func6, Tryz.ntmps6
  go_wp2_with fail
  refine h1.mono ?_
  rintro e w1 ⟨rfl, hw1⟩
  obtain rfl := hw1.symm
  clear h1
  go_wp2_with fail
  refine h2.mono ?_
  rintro e w2 ⟨rfl, hw2⟩
  obtain rfl := hw2.symm
  clear h2
  go_wp2
  go_ret3
  exact ⟨by rw [HL.out, HC.out]; simp, rfl⟩

set_option maxRecDepth 100000 in
set_option maxHeartbeats 1000000 in
theorem where_bad (w : World) (s : ByteArray) (a : Int) (ha : a < 0 ∨ (s.size : Int) < a) : Calls Tryz.prog 6 #[.string s, .int .i64 a] w fun e w' => e = .returned (.tuple #[.int .i64 0, .int .i64 0, .int .i64 1]) ∧ w' = w := by
  rcases ha with ha | ha
  · go_enter Tryz.func6, Tryz.ntmps6
    go_wp2
    go_ret3
    exact ⟨rfl, rfl⟩
  · have t1 : ¬ a < 0 := by omega
    go_enter Tryz.func6, Tryz.ntmps6
    go_wp2
    go_ret3
    exact ⟨rfl, rfl⟩

end Go.Proofs.YtmifejkddgcbmabGreat
