/- Raw text. -/
import Derived.Test.YtmifejkddgcbmaaGreatA13
import Derived.Test.YtmifejkddgcbmaaGreatA14
namespace Go.Proofs.YtmifejkddgcbmaaGreat
open Go.RowKit
set_option linter.unusedVariables false
set_option linter.unusedSimpArgs false
attribute [local go_sem] Bel.cell Bel.fz

theorem str_ne {a b : ByteArray} (h : a ≠ b) : (a.toList == b.toList) = false := by
  rw [beq_eq_false_iff_ne]
  intro e
  apply h
  rw [ByteArray.toList_eq, ByteArray.toList_eq] at e
  obtain ⟨⟨a⟩⟩ := a
  obtain ⟨⟨b⟩⟩ := b
  simpa using e

theorem growP_ok {s s1 : St} {o x o1 : Bs} {a : Nat} (h : growP s o x a = .inl (o1, s1)) : s1 = s ∧ o1 = o ++ x ∧ o1.length ≤ 16384 := by
  unfold growP at h
  split at h
  · cases h
  · cases h; exact ⟨rfl, rfl, by rw [List.length_append]; omega⟩
theorem putP_ok {s s1 : St} {o x o1 : Bs} {a : Nat} (h : putP s o x a = .inl (o1, s1)) : s1.at_ = s.at_ ∧ s1.op = s.op ∧ (s.nodes ≤ 4096 → s1.nodes ≤ 4096) ∧ o1 = o ++ x ∧ o1.length ≤ 16384 := by
  unfold putP at h
  split at h
  · split at h
    · rename_i hb
      obtain ⟨e1, e2, e3⟩ := beginP_ok hb
      obtain ⟨e4, e5, e6⟩ := growP_ok h
      subst e4 e1
      exact ⟨rfl, rfl, fun _ => by simp only; omega, e5, e6⟩
    · cases h
  · obtain ⟨e4, e5, e6⟩ := growP_ok h
    subst e4
    exact ⟨rfl, rfl, id, e5, e6⟩
theorem Ok.put {tx : ByteArray} {s s1 : St} {o x o1 : Bs} {a : Nat} (h : Ok tx s) (e : putP s o x a = .inl (o1, s1)) : Ok tx s1 := by
  obtain ⟨h1, h2, h3, h4, h5⟩ := putP_ok e
  exact ⟨h.len, by rw [h1]; exact h.at_, h3 h.nodes, by rw [h2]; exact h.op⟩
theorem skipP_ok {l : Bs} {n : Nat} {q x : Bs} {s s1 : St} (h : skipP l n q s = .inl (x, s1)) (hn : s.at_ + n ≤ l.length) : s1 = { s with at_ := s.at_ + n + x.length + q.length } ∧ s.at_ + n + x.length + q.length ≤ l.length ∧ x = (l.drop (s.at_ + n)).take x.length := by
  unfold skipP at h
  split at h
  · cases h
  · rename_i k hk
    cases h
    have := findP_le _ _ _ hk
    rw [List.length_drop] at this
    have e1 : ((l.drop (s.at_ + n)).take k).length = k := by rw [List.length_take, List.length_drop]; omega
    refine ⟨by rw [e1], by rw [e1]; omega, by rw [e1]⟩

theorem first_len {l : Bs} {r n : Nat} (h : first l = some (r, n)) : 1 ≤ n ∧ n ≤ l.length ∧ n ≤ 4 := by
  obtain ⟨h1, h2, t, h3⟩ := first_some h
  have := size_pos r
  rw [h3, List.length_append, h2, enc_length]
  exact ⟨this.1, by omega, this.2⟩

theorem putsP_cons (s : St) (o : Bs) (x : UInt8) (r : Bs) (a : Nat) : putsP s o (x :: r) a = match putP s o [x] a with
    | .inl (o1, s1) => putsP s1 o1 r (a + 1)
    | .inr (p, e) => .inr (p, e) := rfl

theorem rawF_step {k : Nat} {s : St} {o x : Bs} {a r n : Nat} (hx : x ≠ []) (h : first x = some (r, n)) : rawF (k + 1) s o x a = match putsP s o (x.take n) a with
    | .inr (p, e) => .inr (p, e)
    | .inl (o1, s1) => rawF k s1 o1 (x.drop n) (a + n) := by
  simp only [rawF, hx, if_false, h]
  cases putsP s o (x.take n) a <;> rfl
theorem rawF_end (k : Nat) (s : St) (o : Bs) (a : Nat) : rawF k s o [] a = .inl (o, s) := by cases k <;> simp [rawF]
theorem rawF_bad {k : Nat} {s : St} {o x : Bs} {a : Nat} (hx : x ≠ []) (h : first x = none) : rawF (k + 1) s o x a = .inr (a, 7) := by
  simp only [rawF, hx, if_false, h]
/-- More fuel than there are bytes changes nothing. -/
theorem rawF_fuel : ∀ (k j : Nat) (s : St) (o x : Bs) (a : Nat), x.length ≤ k → x.length ≤ j → rawF k s o x a = rawF j s o x a := by
  intro k
  induction k with
  | zero =>
    intro j s o x a h1 h2
    have : x = [] := List.length_eq_zero_iff.1 (by omega)
    subst this
    rw [rawF_end, rawF_end]
  | succ k ih =>
    intro j s o x a h1 h2
    by_cases hx : x = []
    · subst hx; rw [rawF_end, rawF_end]
    · cases j with
      | zero => exact absurd (List.length_eq_zero_iff.1 (by omega)) hx
      | succ j =>
        cases hf : first x with
        | none => rw [rawF_bad hx hf, rawF_bad hx hf]
        | some p =>
          obtain ⟨r, n⟩ := p
          rw [rawF_step hx hf, rawF_step hx hf]
          have hn := first_len hf
          cases putsP s o (x.take n) a with
          | inr q_ => obtain ⟨p, e⟩ := q_; rfl
          | inl q_ =>
            obtain ⟨o1, s1⟩ := q_
            simp only
            exact ih j s1 o1 _ _ (by rw [List.length_drop]; omega) (by rw [List.length_drop]; omega)

theorem str_empty {x : ByteArray} : (x.data.toList = []) ↔ x.size = 0 := by rw [← size_list, List.length_eq_zero_iff]

set_option maxRecDepth 100000 in
set_option maxHeartbeats 2000000 in
theorem raw_any (w : World) (b B : Nat) (tx : ByteArray) (s : St) (h : Rd w b tx s) (ok : Ok tx s) (hbB : b < B) (hB : B ≤ w.heap.size) (v : Value) (o : Bs) (ho : Own w B v o) (hl : o.length ≤ 16384) (h9 : s.at_ + 9 ≤ tx.size) :
    Calls Tryz.prog 82 #[.pointer (some ⟨b, 0, none⟩), v] w (Post w b tx (fun k => k = b ∨ B ≤ k) (rawP tx.data.toList s o) fun o' e w' => ∃ v', e = .returned v' ∧ Own w' B v' o') := by
  obtain ⟨sa, scap, rfl⟩ := ho.slice
  have HR : Hid (Rd w b tx s) := h
  have HO : Hid (Own w B (.slice sa o.length scap) o) := ho
  have HOK : Hid (Ok tx s) := ok
  have hsk := skip_any w b tx s h ok ⟨#[60, 33, 91, 67, 68, 65, 84, 65, 91]⟩ ⟨#[93, 93, 62]⟩ h9 (by decide)
  obtain ⟨h0, h1, h2, h3, f1, f2, f3, hb⟩ := h.facts
  obtain ⟨k1, k2, k3, k4⟩ := ok
  clear h ho
  have e9 : (⟨#[60, 33, 91, 67, 68, 65, 84, 65, 91]⟩ : ByteArray).size = 9 := rfl
  have e3 : (⟨#[93, 93, 62]⟩ : ByteArray).data.toList = [93, 93, 62] := rfl
  rw [e9, e3] at hsk
  cases hp : skipP tx.data.toList 9 [93, 93, 62] s with
  | inr q_ =>
    obtain ⟨p, c⟩ := q_
    rw [hp] at hsk
    have HG : Hid (rawP tx.data.toList s o = .inr (p, c)) := by show rawP _ _ _ = _; unfold rawP; rw [hp]
    clear hp e9 e3
    go_enter Tryz.func82, Tryz.ntmps82
    go_wp2_with fail
    refine hsk.mono ?_
    rintro e w1 ⟨rfl, ht⟩
    exact ⟨rfl, Post.no HG.out (ht.mono (fun k _ e => .inl e))⟩
  | inl q_ =>
    obtain ⟨x, s1⟩ := q_
    rw [hp] at hsk
    obtain ⟨es, hle, -⟩ := skipP_ok hp (by rw [size_list]; exact h9)
    rw [size_list] at hle
    have HG : Hid (rawP tx.data.toList s o = rawF x.length s1 o x (s.at_ + 9)) := by show rawP _ _ _ = _; unfold rawP; rw [hp]
    have HK1 : Hid (Ok tx s1) := by subst es; exact ⟨k1, by simp only; simpa using hle, k3, k4⟩
    have HX : Hid ((ba x).data.toList = x) := ba_list x
    have hxs : (ba x).size = x.length := ba_size x
    have hxl : s.at_ + 9 + x.length ≤ tx.size := by simp at hle; omega
    clear hp e9 e3 es hle
    go_enter Tryz.func82, Tryz.ntmps82
    go_wp2_with fail
    refine hsk.mono ?_
    rintro e w1 ⟨rfl, hr1, ht1⟩
    have HR1 : Hid (Rd w1 b tx s1) := hr1
    have HT1 : Hid (Turn (fun k => k = b ∨ B ≤ k) w w1) := ht1.mono (fun k _ e => .inl e)
    have HO1 : Hid (Own w1 B (.slice sa o.length scap) o) := own_of_block HO.out (fun k hk => ht1.block k (World.ownsRow.lt HO.out k hk).2 (by have := (World.ownsRow.lt HO.out k hk).1; omega))
    clear hr1 ht1 hsk h0 h1 h2 h3 f1 f2 f3 hb
    go_wp2
    go_loopw [1, 5, 6] (fun v1 v5 v6 wr => ∃ (o' : Bs) (y : ByteArray) (a : Nat) (s' : St), o'.length ≤ 16384 ∧ a + y.size ≤ tx.size ∧ v5 = .int .i64 (a : Int) ∧ v6 = .string y ∧ Hid (Own wr B v1 o') ∧ Hid (rawP tx.data.toList s o = rawF y.size s' o' y.data.toList a) ∧ Hid (Rd wr b tx s') ∧ Hid (Ok tx s') ∧ Hid (Turn (fun k => k = b ∨ B ≤ k) w wr)) (fun _ _ v6 _ => match v6 with | .string y => y.size | _ => 0)
    case atStart => exact ⟨o, ba x, s.at_ + 9, s1, hl, by omega, by simp, rfl, HO1, by show rawP _ _ _ = _; rw [HG.out, HX.out, hxs], HR1, HK1, HT1⟩
    case round =>
      obtain ⟨o', y, a, s', hol, hay, rfl, rfl, hown, hgo, hr, hok, ht⟩ := hrel
      obtain ⟨va, vcap, rfl⟩ := hown.out.slice
      by_cases hy : y.size = 0
      · have hy0 : y.data.toList = [] := str_empty.2 hy
        have HG2 : Hid (rawP tx.data.toList s o = .inl (o', s')) := by show rawP _ _ _ = _; rw [hgo.out, hy0, rawF_end]
        obtain rfl : y = ⟨#[]⟩ := by rw [← ba_of y, hy0]; rfl
        clear hgo HG hy0 hy
        go_wp2
        go_ret
        exact Post.yes HG2.out ⟨_, rfl, hown.out⟩ hr.out ht.out
      · have hy0 : y.data.toList ≠ [] := fun e => hy (str_empty.1 e)
        have t1 : y.toList.isEmpty = false := notEmpty (by omega)
        have hfi := fun W => first_any W y
        obtain ⟨k, hk⟩ : ∃ k, y.size = k + 1 := ⟨y.size - 1, by omega⟩
        cases hf : first y.data.toList with
        | none =>
          have hfn := fans_no (l := y.data.toList) (by rw [size_list]; omega) hf
          rw [hfn] at hfi
          have HG2 : Hid (rawP tx.data.toList s o = .inr (a, 7)) := by show rawP _ _ _ = _; rw [hgo.out, hk, rawF_bad hy0 hf]
          have hfl := fun W => fail_any W (.pointer (some ⟨b, 0, none⟩)) a 7
          clear hgo HG hy0 hy hk hf hfn
          go_wp2_with fail
          refine (hfi _).mono ?_
          rintro e w2 ⟨rfl, hb2⟩
          have HT2 : Hid (Turn (fun k => k = b ∨ B ≤ k) w w2) := ht.out.then hb2 ht.out.size
          clear hb2 hfi
          go_wp2_with fail
          refine (hfl _).mono ?_
          rintro e w3 ⟨rfl, rfl⟩
          exact ⟨rfl, Post.no HG2.out HT2.out⟩
        | some pr =>
          obtain ⟨r0, n⟩ := pr
          have hfs := fans_of hf
          rw [hfs] at hfi
          obtain ⟨hn1, hn2, hn3⟩ := first_len hf
          rw [size_list] at hn2
          have hst := rawF_step (k := k) (s := s') (o := o') (a := a) hy0 hf
          rw [hk] at hgo
          have HG2 : Hid (rawP tx.data.toList s o = _) := hgo.out.trans hst
          have HL : Hid (y.data.toList.length = y.size) := size_list y
          have HKK : Hid (y.size = k + 1) := hk
          clear hgo HG hy0 hy hf hfs hst hk
          go_wp2_with fail
          refine (hfi _).mono ?_
          rintro e w2 ⟨rfl, hb2⟩
          have HT2 : Hid (Turn (fun k => k = b ∨ B ≤ k) w w2) := ht.out.then hb2 ht.out.size
          have HR2 : Hid (Rd w2 b tx s') := hr.out.below hb2 hr.out.facts.2.2.2.2.2.2.2
          have HO2 : Hid (Own w2 B (.slice va o'.length vcap) o') := owns_below hown.out hb2
          clear hb2 hfi
          go_wp2
          go_loopw [1, 33] (fun v1 v33 wr2 => ∃ (o2 : Bs) (i : Nat) (s2 : St), i ≤ n ∧ o2.length ≤ 16384 ∧ v33 = .int .i64 (i : Int) ∧ Hid (Own wr2 B v1 o2) ∧ Hid (putsP s' o' (y.data.toList.take n) a = putsP s2 o2 ((y.data.toList.take n).drop i) (a + i)) ∧ Hid (Rd wr2 b tx s2) ∧ Hid (Ok tx s2) ∧ Hid (Turn (fun k => k = b ∨ B ≤ k) w wr2)) (fun _ v33 _ => n - (intOf v33).toNat)
          case atStart => exact ⟨o', 0, s', by omega, hol, rfl, HO2, rfl, HR2, hok, HT2⟩
          case round =>
            obtain ⟨o2, i, s2, hin, hol2, rfl, hown2, hgo2, hr2, hok2, ht2⟩ := hrel
            obtain ⟨va2, vcap2, rfl⟩ := hown2.out.slice
            by_cases hi : i < n
            · have hiy : i < y.size := by omega
              have hd : (y.data.toList.take n).drop i = (y[i]'hiy) :: (y.data.toList.take n).drop (i + 1) := by
                have hl1 : i < (y.data.toList.take n).length := by rw [List.length_take, HL.out]; omega
                rw [List.drop_eq_getElem_cons hl1, List.getElem_take]
                rfl
              have hpc := putsP_cons s2 o2 (y[i]'hiy) ((y.data.toList.take n).drop (i + 1)) (a + i)
              rw [← hd, ← hgo2.out] at hpc
              have hput := put_any wr b B tx s2 hr2.out hok2.out hbB (Nat.le_trans hB ht2.out.size) _ o2 hown2.out hol2 (y.extract i (i + 1)) (by simp; omega) (a + i)
              rw [ext_one hiy] at hput
              rw [Int.natCast_add] at hput
              cases hpp : putP s2 o2 [y[i]'hiy] (a + i) with
              | inr q_ =>
                obtain ⟨p, c⟩ := q_
                rw [hpp] at hput hpc
                have HG3 : Hid (rawP tx.data.toList s o = .inr (p, c)) := by show rawP _ _ _ = _; rw [HG2.out, hpc]
                clear hpp hpc hd hgo2 HG2
                go_wp2_with fail
                refine hput.mono ?_
                rintro e w3 ⟨rfl, ht3⟩
                exact ⟨rfl, Post.no HG3.out (ht2.out.trans ht3)⟩
              | inl q_ =>
                obtain ⟨o3, s3⟩ := q_
                rw [hpp] at hput hpc
                obtain ⟨-, -, -, -, hol3⟩ := putP_ok hpp
                have HK3 : Hid (Ok tx s3) := hok2.out.put hpp
                have HPC : Hid (putsP s' o' (y.data.toList.take n) a = putsP s3 o3 ((y.data.toList.take n).drop (i + 1)) (a + i + 1)) := hpc
                clear hpp hpc hd hgo2
                go_wp2_with fail
                refine hput.mono ?_
                rintro e w3 ⟨⟨v3, rfl, hown3⟩, hr3, ht3⟩
                have HO3 : Hid (Own w3 B v3 o3) := hown3
                have HR3 : Hid (Rd w3 b tx s3) := hr3
                have HT3 : Hid (Turn (fun k => k = b ∨ B ≤ k) w w3) := ht2.out.trans ht3
                obtain ⟨va3, vcap3, rfl⟩ := hown3.slice
                clear hput hown3 hr3 ht3
                go_wp2
                refine ⟨⟨o3, i + 1, s3, by omega, hol3, by simp, HO3, by show putsP _ _ _ _ = _; rw [HPC.out]; rfl, HR3, HK3, HT3⟩, ?_⟩
                simp [intOf]; omega
            · have hin' : i = n := by omega
              have hd : (y.data.toList.take n).drop i = [] := List.drop_eq_nil_of_le (by rw [List.length_take]; omega)
              have hg3 : putsP s' o' (y.data.toList.take n) a = .inl (o2, s2) := by rw [hgo2.out, hd]; rfl
              have HG3 : Hid (rawP tx.data.toList s o = rawF k s2 o2 (y.data.toList.drop n) (a + n)) := by show rawP _ _ _ = _; rw [HG2.out, hg3]
              have HXD : Hid ((y.extract n y.size).data.toList = y.data.toList.drop n) := ext_drop
              have hxs2 : (y.extract n y.size).size = y.size - n := by simp
              clear hd hg3 hgo2 HG2
              go_wp2
              refine ⟨⟨o2, y.extract n y.size, a + n, s2, hol2, by omega, by simp, rfl, hown2, ?_, hr2, hok2, ht2⟩, ?_⟩
              · show rawP _ _ _ = _
                rw [HG3.out, HXD.out]
                have hk := HKK.out
                exact rawF_fuel _ _ _ _ _ _ (by rw [List.length_drop, HL.out]; omega) (by rw [List.length_drop, HL.out]; omega)
              · simp; omega

end Go.Proofs.YtmifejkddgcbmaaGreat

/- What reading leaves, in plain: it goes on, and stays within bounds. -/
namespace Go.Proofs.YtmifejkddgcbmaaGreat
set_option linter.unusedVariables false
set_option linter.unusedSimpArgs false

theorem seesP_le {l p : Bs} {a : Nat} (h : seesP l p a = true) (hp : p ≠ []) : a + p.length ≤ l.length := by
  unfold seesP at h
  have := isPre h
  rw [List.length_drop] at this
  have : 0 < p.length := List.length_pos_iff.2 hp
  omega

theorem unF_len : ∀ (k : Nat) (l acc : Bs) (pos : Nat), (unF k l acc pos).1.length ≤ acc.length + 4 * k := by
  intro k
  induction k with
  | zero => intro l acc pos; unfold unF; simp
  | succ k ih =>
    intro l acc pos
    by_cases hl : l = []
    · subst hl; rw [unF_end]; simp
    · by_cases hn : (nextP l).2.2 = 0
      · obtain ⟨R, n, e1, h2, h3, h4⟩ := nextP_ok hn
        rw [unF_step hl e1]
        split
        · simp
        refine Nat.le_trans (ih _ _ _) ?_
        rw [List.length_append, enc_length]
        have := size_pos R
        omega
      · rw [unF_bad hl hn]; simp

theorem uans_len (l : Bs) : (uans l).1.length ≤ 4 * l.length := by
  have := unF_len l.length l [] 0
  simpa [uans] using this

theorem refOf_pos {r : Bs} (h : r ≠ []) : 1 ≤ (refOf r).length := by
  have h1 : 0 < r.length := List.length_pos_iff.2 h
  unfold refOf
  split
  · rename_i i hi
    obtain ⟨hil, -, -⟩ := List.findIdx?_eq_some_iff_getElem.1 hi
    simp only [List.length_take] at hil ⊢; omega
  · simp only [List.length_take]; omega

theorem letterP_ok {l : Bs} {s s1 : St} {x : Bs} (h : letterP l s = .inl (x, s1)) : s.at_ < s1.at_ ∧ s1.at_ ≤ l.length ∧ s1.nodes = s.nodes ∧ s1.op = s.op ∧ x.length ≤ 40 := by
  cases hd : l.drop s.at_ with
  | nil => unfold letterP at h; rw [hd] at h; cases h
  | cons b r =>
    have hlen : (b :: r).length = l.length - s.at_ := by rw [← hd, List.length_drop]
    have hlen2 : 1 ≤ l.length - s.at_ := by rw [← hlen]; simp
    by_cases hb : b = 38
    · rw [letterP_amp hd hb] at h
      unfold refA at h
      split at h
      · cases h
        have h1 := refOf_le (b :: r)
        have h2 := refOf_pos (r := b :: r) (by simp)
        have h3 := uans_len (refOf (b :: r))
        refine ⟨by simp only; omega, by simp only; omega, rfl, rfl, by omega⟩
      · cases h
    · rw [letterP_chr hd hb] at h
      cases hf : first (b :: r) with
      | none => rw [hf] at h; cases h
      | some p =>
        obtain ⟨r0, n⟩ := p
        rw [hf] at h
        cases h
        have := first_len hf
        refine ⟨by simp only; omega, by simp only; omega, rfl, rfl, by rw [List.length_take]; omega⟩

theorem Ok.letter {tx : ByteArray} {s s1 : St} {x : Bs} (h : Ok tx s) (e : letterP tx.data.toList s = .inl (x, s1)) : Ok tx s1 := by
  obtain ⟨h1, h2, h3, h4, -⟩ := letterP_ok e
  rw [size_list] at h2
  exact ⟨h.len, h2, by rw [h3]; exact h.nodes, by rw [h4]; exact h.op⟩

theorem putsP_ok : ∀ (x : Bs) (s s1 : St) (o o1 : Bs) (a : Nat), o.length ≤ 16384 → putsP s o x a = .inl (o1, s1) → s1.at_ = s.at_ ∧ s1.op = s.op ∧ (s.nodes ≤ 4096 → s1.nodes ≤ 4096) ∧ o1.length ≤ 16384 := by
  intro x
  induction x with
  | nil => intro s s1 o o1 a hl h; cases h; exact ⟨rfl, rfl, id, hl⟩
  | cons b r ih =>
    intro s s1 o o1 a hl h
    rw [putsP_cons] at h
    cases hp : putP s o [b] a with
    | inr q_ => obtain ⟨p, e⟩ := q_; rw [hp] at h; cases h
    | inl q_ =>
      obtain ⟨o2, s2⟩ := q_
      rw [hp] at h
      obtain ⟨e1, e2, e3, -, e5⟩ := putP_ok hp
      obtain ⟨g1, g2, g3, g4⟩ := ih _ _ _ _ _ e5 h
      exact ⟨g1.trans e1, g2.trans e2, fun h => g3 (e3 h), g4⟩

theorem rawF_ok : ∀ (k : Nat) (s s1 : St) (o o1 x : Bs) (a : Nat), o.length ≤ 16384 → rawF k s o x a = .inl (o1, s1) → s1.at_ = s.at_ ∧ s1.op = s.op ∧ (s.nodes ≤ 4096 → s1.nodes ≤ 4096) ∧ o1.length ≤ 16384 := by
  intro k
  induction k with
  | zero => intro s s1 o o1 x a hl h; cases h; exact ⟨rfl, rfl, id, hl⟩
  | succ k ih =>
    intro s s1 o o1 x a hl h
    by_cases hx : x = []
    · subst hx; rw [rawF_end] at h; cases h; exact ⟨rfl, rfl, id, hl⟩
    · cases hf : first x with
      | none => rw [rawF_bad hx hf] at h; cases h
      | some p =>
        obtain ⟨r0, n⟩ := p
        rw [rawF_step hx hf] at h
        cases hp : putsP s o (x.take n) a with
        | inr q_ => obtain ⟨p, e⟩ := q_; rw [hp] at h; cases h
        | inl q_ =>
          obtain ⟨o2, s2⟩ := q_
          rw [hp] at h
          obtain ⟨e1, e2, e3, e4⟩ := putsP_ok _ _ _ _ _ _ hl hp
          obtain ⟨g1, g2, g3, g4⟩ := ih _ _ _ _ _ _ e4 h
          exact ⟨g1.trans e1, g2.trans e2, fun h => g3 (e3 h), g4⟩

theorem rawP_ok {l : Bs} {s s1 : St} {o o1 : Bs} (hl : o.length ≤ 16384) (h9 : s.at_ + 9 ≤ l.length) (h : rawP l s o = .inl (o1, s1)) : s.at_ < s1.at_ ∧ s1.at_ ≤ l.length ∧ s1.op = s.op ∧ (s.nodes ≤ 4096 → s1.nodes ≤ 4096) ∧ o1.length ≤ 16384 := by
  unfold rawP at h
  cases hs : skipP l 9 [93, 93, 62] s with
  | inr q_ => obtain ⟨p, e⟩ := q_; rw [hs] at h; cases h
  | inl q_ =>
    obtain ⟨x, s2⟩ := q_
    rw [hs] at h
    obtain ⟨e1, e2, -⟩ := skipP_ok hs h9
    obtain ⟨g1, g2, g3, g4⟩ := rawF_ok _ _ _ _ _ _ _ hl h
    subst e1
    refine ⟨by rw [g1]; simp only; omega, by rw [g1]; exact e2, g2, g3, g4⟩

theorem tagP_ok {l : Bs} {s s1 : St} {u : Unit} (h : tagP l s = .inl (u, s1)) : s1 = s := by
  unfold tagP at h
  split at h
  · cases h
  · split at h
    · cases h; rfl
    · split at h
      · split at h
        · cases h; rfl
        · cases h
      · cases h

end Go.Proofs.YtmifejkddgcbmaaGreat
