/- A character, or a reference for one. -/
import Derived.Test.YtmifejkddgcbmaaGreatA10
import Derived.Test.YtmifejkddgcbmaaGreatA12
namespace Go.Proofs.YtmifejkddgcbmaaGreat
open Go.RowKit
set_option linter.unusedVariables false
set_option linter.unusedSimpArgs false
attribute [local go_sem] Bel.cell Bel.fz

theorem indexByte_find (c : UInt8) : ∀ l : Bs, Lib.indexByte l c = match l.findIdx? (· = c) with
    | some k => (k : Int)
    | none => -1
  | [] => rfl
  | b :: r => by
    unfold Lib.indexByte
    rw [indexByte_find c r, List.findIdx?_cons]
    by_cases hb : b = c
    · simp [hb]
    · simp only [hb, beq_eq_false_iff_ne.2 hb, decide_false, Bool.false_eq_true, if_false]
      cases r.findIdx? (· = c) with
      | none => simp
      | some k => simp <;> omega

def refA (r : Bs) (s : St) : Rs Bs := if (uans (refOf r)).2.2 = 0 then .inl ((uans (refOf r)).1, { s with at_ := s.at_ + (refOf r).length }) else .inr (s.at_, (uans (refOf r)).2.2)

theorem refOf_le (r : Bs) : (refOf r).length ≤ r.length ∧ (refOf r).length ≤ 10 := by
  unfold refOf
  split <;> simp <;> omega

theorem ext_take {r : ByteArray} {n : Nat} (h : n ≤ r.size) : (r.extract 0 n).data.toList = r.data.toList.take n := by
  rw [ext_mid]; simp

set_option maxRecDepth 100000 in
set_option maxHeartbeats 1000000 in
theorem reference_any (w : World) (b : Nat) (tx : ByteArray) (s : St) (h : Rd w b tx s) (ok : Ok tx s) (r : ByteArray) (hr : s.at_ + r.size ≤ tx.size) :
    Calls Tryz.prog 106 #[.pointer (some ⟨b, 0, none⟩), .string r] w (Post w b tx (· = b) (refA r.data.toList s) fun x e w' => e = .returned (.string (ba x))) := by
  have HR : Hid (Rd w b tx s) := h
  obtain ⟨h0, h1, h2, h3, f1, f2, f3, hb⟩ := h.facts
  obtain ⟨k1, k2, k3, k4⟩ := ok
  have hE0 : (r.extract 0 (min r.size 10)).data.toList = r.data.toList.take 10 := by
    rw [ext_take (by omega)]
    by_cases hlt : r.size ≤ 10
    · rw [List.take_of_length_le (by rw [size_list]; omega), List.take_of_length_le (by rw [size_list]; omega)]
    · rw [show min r.size 10 = 10 by omega]
  have hs0 : (r.extract 0 (min r.size 10)).size = min r.size 10 := by simp <;> omega
  have hmin : min (r.size : Int) 10 = ((min r.size 10 : Nat) : Int) := by omega
  have hix := fun W => Tryz.strings_IndexByte (r.extract 0 (min r.size 10)) 59 W
  have hif := indexByte_find 59 (r.data.toList.take 10)
  rw [hE0] at hix
  simp only [show (59 : Int).toNat.toUInt8 = (59 : UInt8) from rfl] at hix
  cases hf : (r.data.toList.take 10).findIdx? (· = (59 : UInt8)) with
  | none =>
    rw [hf] at hif
    rw [hif] at hix
    have hro : refOf r.data.toList = (r.extract 0 (min r.size 10)).data.toList := by unfold refOf; rw [hf]; exact hE0.symm
    have hun := fun W => unescape_any W (r.extract 0 (min r.size 10)) (by omega)
    have hYs : (r.extract 0 (min r.size 10)).size ≤ 10 := by omega
    clear hif hE0 hf h hs0
    by_cases hz : (uans (r.extract 0 (min r.size 10)).data.toList).2.2 = 0
    · have HA : Hid (refA r.data.toList s = .inl ((uans (r.extract 0 (min r.size 10)).data.toList).1, { s with at_ := s.at_ + (r.extract 0 (min r.size 10)).size })) := by
        show refA r.data.toList s = _
        unfold refA
        rw [hro, if_pos hz, size_list]
      have t1 : ((uans (r.extract 0 (min r.size 10)).data.toList).2.2 != 0) = false := by rw [hz]; rfl
      have HX : Hid (ba (uans (r.extract 0 (min r.size 10)).data.toList).1 = ⟨(uans (r.extract 0 (min r.size 10)).data.toList).1.toArray⟩) := rfl
      have hys : (r.extract 0 (min r.size 10)).size ≤ 10 := hYs
      clear hro hz hYs
      generalize (⟨(uans (r.extract 0 (min r.size 10)).data.toList).1.toArray⟩ : ByteArray) = X1 at *
      generalize (uans (r.extract 0 (min r.size 10)).data.toList).2.1 = x2 at *
      generalize (uans (r.extract 0 (min r.size 10)).data.toList).2.2 = x3 at *
      generalize (uans (r.extract 0 (min r.size 10)).data.toList).1 = x1 at *
      go_enter Tryz.func106, Tryz.ntmps106
      go_wp2_with fail
      refine (hix _).mono ?_
      rintro e w1 ⟨rfl, hw1⟩
      obtain rfl := hw1.symm
      go_wp2_with fail
      refine (hun _).mono ?_
      rintro e w2 ⟨rfl, hb2⟩
      have HB2 : Hid (Below w.heap.size w w2) := hb2
      have HR2 : Hid (Rd w2 b tx s) := HR.out.below hb2 hb
      clear h0 h1 h2 h3 f1 f2 f3 hb2 hun
      obtain ⟨h0, h1, h2, h3, f1, f2, f3, hb2⟩ := HR2.out.facts
      go_wp2
      go_ret
      exact Post.yes HA.out (congrArg (fun z => Ending.returned (.string z)) HX.out.symm) (HR2.out.setAt _ (by simp)) (turn_set (turn_below _ HB2.out (Nat.le_refl _)) _ _)
    · have HA : Hid (refA r.data.toList s = .inr (s.at_, (uans (r.extract 0 (min r.size 10)).data.toList).2.2)) := by
        show refA r.data.toList s = _
        unfold refA
        rw [hro, if_neg hz]
      have t1 : ((uans (r.extract 0 (min r.size 10)).data.toList).2.2 != 0) = true := bne_iff_ne.2 hz
      clear hro hz hYs
      generalize (uans (r.extract 0 (min r.size 10)).data.toList).2.1 = x2 at *
      generalize (uans (r.extract 0 (min r.size 10)).data.toList).2.2 = x3 at *
      generalize (⟨(uans (r.extract 0 (min r.size 10)).data.toList).1.toArray⟩ : ByteArray) = X1 at *
      have hfl := fun W => fail_any W (.pointer (some ⟨b, 0, none⟩)) s.at_ x3
      go_enter Tryz.func106, Tryz.ntmps106
      go_wp2_with fail
      refine (hix _).mono ?_
      rintro e w1 ⟨rfl, hw1⟩
      obtain rfl := hw1.symm
      go_wp2_with fail
      refine (hun _).mono ?_
      rintro e w2 ⟨rfl, hb2⟩
      have HB2 : Hid (Below w.heap.size w w2) := hb2
      have HR2 : Hid (Rd w2 b tx s) := HR.out.below hb2 hb
      clear h0 h1 h2 h3 f1 f2 f3 hb2 hun
      obtain ⟨h0, h1, h2, h3, f1, f2, f3, hb2⟩ := HR2.out.facts
      go_wp2_with fail
      refine (hfl _).mono ?_
      rintro e w3 ⟨rfl, rfl⟩
      exact ⟨rfl, Post.no HA.out (turn_below _ HB2.out (Nat.le_refl _))⟩
  | some i =>
    rw [hf] at hif
    rw [hif] at hix
    obtain ⟨hil, -, -⟩ := List.findIdx?_eq_some_iff_getElem.1 hf
    have hil2 : i < (r.extract 0 (min r.size 10)).size := by rw [← size_list, hE0]; exact hil
    have hro : refOf r.data.toList = ((r.extract 0 (min r.size 10)).extract 0 (i + 1)).data.toList := by
      unfold refOf; rw [hf, ext_take (by omega), hE0]
    have hun := fun W => unescape_any W ((r.extract 0 (min r.size 10)).extract 0 (i + 1)) (by simp; omega)
    have hYs : ((r.extract 0 (min r.size 10)).extract 0 (i + 1)).size ≤ 10 := by simp; omega
    clear hif hE0 hf h hil
    by_cases hz : (uans ((r.extract 0 (min r.size 10)).extract 0 (i + 1)).data.toList).2.2 = 0
    · have HA : Hid (refA r.data.toList s = .inl ((uans ((r.extract 0 (min r.size 10)).extract 0 (i + 1)).data.toList).1, { s with at_ := s.at_ + ((r.extract 0 (min r.size 10)).extract 0 (i + 1)).size })) := by
        show refA r.data.toList s = _
        unfold refA
        rw [hro, if_pos hz, size_list]
      have t1 : ((uans ((r.extract 0 (min r.size 10)).extract 0 (i + 1)).data.toList).2.2 != 0) = false := by rw [hz]; rfl
      have HX : Hid (ba (uans ((r.extract 0 (min r.size 10)).extract 0 (i + 1)).data.toList).1 = ⟨(uans ((r.extract 0 (min r.size 10)).extract 0 (i + 1)).data.toList).1.toArray⟩) := rfl
      have hys : ((r.extract 0 (min r.size 10)).extract 0 (i + 1)).size ≤ 10 := hYs
      clear hro hz hYs
      generalize (⟨(uans ((r.extract 0 (min r.size 10)).extract 0 (i + 1)).data.toList).1.toArray⟩ : ByteArray) = X1 at *
      generalize (uans ((r.extract 0 (min r.size 10)).extract 0 (i + 1)).data.toList).2.1 = x2 at *
      generalize (uans ((r.extract 0 (min r.size 10)).extract 0 (i + 1)).data.toList).2.2 = x3 at *
      generalize (uans ((r.extract 0 (min r.size 10)).extract 0 (i + 1)).data.toList).1 = x1 at *
      go_enter Tryz.func106, Tryz.ntmps106
      go_wp2_with fail
      refine (hix _).mono ?_
      rintro e w1 ⟨rfl, hw1⟩
      obtain rfl := hw1.symm
      go_wp2_with fail
      refine (hun _).mono ?_
      rintro e w2 ⟨rfl, hb2⟩
      have HB2 : Hid (Below w.heap.size w w2) := hb2
      have HR2 : Hid (Rd w2 b tx s) := HR.out.below hb2 hb
      clear h0 h1 h2 h3 f1 f2 f3 hb2 hun
      obtain ⟨h0, h1, h2, h3, f1, f2, f3, hb2⟩ := HR2.out.facts
      go_wp2
      go_ret
      exact Post.yes HA.out (congrArg (fun z => Ending.returned (.string z)) HX.out.symm) (HR2.out.setAt _ (by simp)) (turn_set (turn_below _ HB2.out (Nat.le_refl _)) _ _)
    · have HA : Hid (refA r.data.toList s = .inr (s.at_, (uans ((r.extract 0 (min r.size 10)).extract 0 (i + 1)).data.toList).2.2)) := by
        show refA r.data.toList s = _
        unfold refA
        rw [hro, if_neg hz]
      have t1 : ((uans ((r.extract 0 (min r.size 10)).extract 0 (i + 1)).data.toList).2.2 != 0) = true := bne_iff_ne.2 hz
      clear hro hz hYs
      generalize (uans ((r.extract 0 (min r.size 10)).extract 0 (i + 1)).data.toList).2.1 = x2 at *
      generalize (uans ((r.extract 0 (min r.size 10)).extract 0 (i + 1)).data.toList).2.2 = x3 at *
      generalize (⟨(uans ((r.extract 0 (min r.size 10)).extract 0 (i + 1)).data.toList).1.toArray⟩ : ByteArray) = X1 at *
      have hfl := fun W => fail_any W (.pointer (some ⟨b, 0, none⟩)) s.at_ x3
      go_enter Tryz.func106, Tryz.ntmps106
      go_wp2_with fail
      refine (hix _).mono ?_
      rintro e w1 ⟨rfl, hw1⟩
      obtain rfl := hw1.symm
      go_wp2_with fail
      refine (hun _).mono ?_
      rintro e w2 ⟨rfl, hb2⟩
      have HB2 : Hid (Below w.heap.size w w2) := hb2
      have HR2 : Hid (Rd w2 b tx s) := HR.out.below hb2 hb
      clear h0 h1 h2 h3 f1 f2 f3 hb2 hun
      obtain ⟨h0, h1, h2, h3, f1, f2, f3, hb2⟩ := HR2.out.facts
      go_wp2_with fail
      refine (hfl _).mono ?_
      rintro e w3 ⟨rfl, rfl⟩
      exact ⟨rfl, Post.no HA.out (turn_below _ HB2.out (Nat.le_refl _))⟩

theorem letterP_amp {l : Bs} {s : St} {b : UInt8} {r : Bs} (h : l.drop s.at_ = b :: r) (hb : b = 38) : letterP l s = refA (b :: r) s := by
  unfold letterP refA
  rw [h]
  simp only [hb, if_true]
theorem letterP_chr {l : Bs} {s : St} {b : UInt8} {r : Bs} (h : l.drop s.at_ = b :: r) (hb : b ≠ 38) : letterP l s = match first (b :: r) with
    | some (_, n) => .inl (((b :: r).take n), { s with at_ := s.at_ + n })
    | none => .inr (s.at_, 7) := by
  unfold letterP
  rw [h]
  simp only [hb, if_false]
  rcases first (b :: r) with _ | ⟨_, n⟩ <;> rfl

set_option maxRecDepth 100000 in
set_option maxHeartbeats 1000000 in
theorem letter_any (w : World) (b : Nat) (tx : ByteArray) (s : St) (h : Rd w b tx s) (ok : Ok tx s) (hlt : s.at_ < tx.size) :
    Calls Tryz.prog 80 #[.pointer (some ⟨b, 0, none⟩)] w (Post w b tx (· = b) (letterP tx.data.toList s) fun x e w' => e = .returned (.string (ba x))) := by
  have HR : Hid (Rd w b tx s) := h
  obtain ⟨h0, h1, h2, h3, f1, f2, f3, hb⟩ := h.facts
  have HOK : Hid (Ok tx s) := ok
  obtain ⟨k1, k2, k3, k4⟩ := ok
  have hdr := drop_get hlt
  have hX0 : 0 < (tx.extract s.at_ tx.size).size := by simp; omega
  have hXs : (tx.extract s.at_ tx.size).size = tx.size - s.at_ := by simp
  have hXl := ext_drop (tx := tx) (a := s.at_)
  have hXh : (tx.extract s.at_ tx.size)[0]'hX0 = tx[s.at_]'hlt := head_list (hXl.trans hdr) hX0
  clear h
  by_cases hc : tx[s.at_]'hlt = 38
  · have HE := letterP_amp hdr hc
    rw [← hdr, ← hXl] at HE
    have hrf := fun (W : World) (hr : Rd W b tx s) => reference_any W b tx s hr HOK.out (tx.extract s.at_ tx.size) (by omega)
    have HE2 : Hid (letterP tx.data.toList s = refA (tx.extract s.at_ tx.size).data.toList s) := HE
    have t1 : ((((tx.extract s.at_ tx.size)[0]'hX0).toNat : Int) == 38) = true := by rw [hXh, hc]; rfl
    clear HE hdr hc hXl hXh hXs
    go_enter Tryz.func80, Tryz.ntmps80
    go_wp2_with (go_region)
    refine (hrf _ HR.out.drew).mono ?_
    intro e w2 hpost
    have hpost := hpost.after (A' := fun x => x = b) (Turn.refl _ w).drew (fun k _ hk => hk)
    cases hgp : refA (tx.extract s.at_ tx.size).data.toList s with
    | inr q_ =>
      obtain ⟨p, c⟩ := q_
      rw [hgp] at hpost
      obtain ⟨rfl, ht⟩ := hpost
      exact ⟨rfl, Post.no (HE2.out.trans hgp) ht⟩
    | inl q_ =>
      obtain ⟨x, s'⟩ := q_
      rw [hgp] at hpost
      obtain ⟨rfl, hr', ht⟩ := hpost
      have HG : Hid (letterP tx.data.toList s = .inl (x, s')) := HE2.out.trans hgp
      clear hrf hgp HE2
      go_wp2
      go_ret
      exact Post.yes HG.out rfl hr' ht
  · have HE := letterP_chr hdr hc
    have hfi := fun W => first_any W (tx.extract s.at_ tx.size)
    have t1 : ((((tx.extract s.at_ tx.size)[0]'hX0).toNat : Int) == 38) = false := by
      rw [hXh]
      have : (tx[s.at_]'hlt).toNat ≠ 38 := fun e => hc (UInt8.toNat_inj.1 e)
      simp; omega
    cases hf : first (tx.extract s.at_ tx.size).data.toList with
    | none =>
      rw [hXl, hdr] at hf
      rw [hf] at HE
      have hfn := fans_no (l := (tx.extract s.at_ tx.size).data.toList) (by rw [hXl, hdr]; simp) (by rw [hXl, hdr]; exact hf)
      rw [hfn] at hfi
      have HG : Hid (letterP tx.data.toList s = .inr (s.at_, 7)) := HE
      have hfl := fun W => fail_any W (.pointer (some ⟨b, 0, none⟩)) s.at_ 7
      clear HE hdr hc hXl hXh hXs hf hfn
      go_enter Tryz.func80, Tryz.ntmps80
      go_wp2_with (go_region)
      refine (hfi _).mono ?_
      rintro e w2 ⟨rfl, hb2⟩
      have HB2 : Hid (Below w.heap.size w w2) := (Below.refl _ w).drew.trans hb2
      have HR2 : Hid (Rd w2 b tx s) := HR.out.below HB2.out hb
      clear h0 h1 h2 h3 f1 f2 f3 hb2 hfi
      obtain ⟨h0, h1, h2, h3, f1, f2, f3, hb2⟩ := HR2.out.facts
      go_wp2_with fail
      refine (hfl _).mono ?_
      rintro e w3 ⟨rfl, rfl⟩
      exact ⟨rfl, Post.no HG.out (turn_below _ HB2.out (Nat.le_refl _))⟩
    | some p =>
      obtain ⟨r0, n⟩ := p
      have hfs := fans_of hf
      have hn2 := (first_some hf).2
      have hn3 : 1 ≤ n ∧ n ≤ (tx.extract s.at_ tx.size).data.toList.length := by
        obtain ⟨h1, t, h2⟩ := hn2
        rw [h2, h1, List.length_append]
        exact ⟨enc_pos _, by omega⟩
      rw [hXl, hdr] at hf
      rw [hf] at HE
      rw [size_list] at hn3
      rw [hfs] at hfi
      have hext : ((tx.extract s.at_ tx.size).extract 0 n).data.toList = (tx.data.toList.drop s.at_).take n := by rw [ext_take (by omega), hXl]
      have HG : Hid (letterP tx.data.toList s = .inl (((tx.extract s.at_ tx.size).extract 0 n).data.toList, { s with at_ := s.at_ + n })) := by rw [hext, hdr]; exact HE
      have HX : Hid (ba ((tx.extract s.at_ tx.size).extract 0 n).data.toList = (tx.extract s.at_ tx.size).extract 0 n) := ba_of _
      clear HE hdr hc hXl hXh hf hfs hn2 hext
      go_enter Tryz.func80, Tryz.ntmps80
      go_wp2_with (go_region)
      refine (hfi _).mono ?_
      rintro e w2 ⟨rfl, hb2⟩
      have HB2 : Hid (Below w.heap.size w w2) := (Below.refl _ w).drew.trans hb2
      have HR2 : Hid (Rd w2 b tx s) := HR.out.below HB2.out hb
      clear h0 h1 h2 h3 f1 f2 f3 hb2 hfi
      obtain ⟨h0, h1, h2, h3, f1, f2, f3, hb2⟩ := HR2.out.facts
      go_wp2
      go_ret
      exact Post.yes HG.out (congrArg (fun z => Ending.returned (.string z)) HX.out.symm) (HR2.out.setAt _ (by simp)) (turn_set (turn_below _ HB2.out (Nat.le_refl _)) _ _)

end Go.Proofs.YtmifejkddgcbmaaGreat

/- Tags, raw text. -/
namespace Go.Proofs.YtmifejkddgcbmaaGreat
open Go.RowKit
set_option linter.unusedVariables false
set_option linter.unusedSimpArgs false
attribute [local go_sem] Bel.cell Bel.fz

theorem breaks_one {l : Bs} {s : St} (h : l.drop s.at_ = [60]) : breaksP l [60, 33, 45, 45] s.at_ = true := by
  unfold breaksP; rw [h]; rfl

theorem idx_next {tx : ByteArray} {a : Nat} (h : a + 1 < tx.size) (W : World) : (Instr.index 9 (.string tx) (.int .i64 ((a : Int) + 1))).run Tryz.prog W = .ok (.int .u8 ((tx[a + 1]'h).toNat : Int)) W := by
  rw [run_index_string W 9 tx .i64 _ Tryz.underlying9, dif_pos ⟨by omega, by omega⟩]
  have e1 : ((a : Int) + 1).toNat = a + 1 := by omega
  simp only [e1]

set_option maxRecDepth 100000 in
set_option maxHeartbeats 1000000 in
theorem tag_any (w : World) (b : Nat) (tx : ByteArray) (s : St) (h : Rd w b tx s) (ok : Ok tx s) (hlt : s.at_ < tx.size) (h60 : tx[s.at_]'hlt = 60) :
    Calls Tryz.prog 83 #[.pointer (some ⟨b, 0, none⟩)] w (Post w b tx (· = b) (tagP tx.data.toList s) fun _ e w' => e = .returned (.tuple #[])) := by
  have HR : Hid (Rd w b tx s) := h
  have hbr := fun (W : World) (hr : Rd W b tx s) (p : ByteArray) => breaks_any W b tx s hr ok p
  have hse := fun (W : World) (hr : Rd W b tx s) (p : ByteArray) => sees_any W b tx s hr ok p
  obtain ⟨h0, h1, h2, h3, f1, f2, f3, hb⟩ := h.facts
  obtain ⟨k1, k2, k3, k4⟩ := ok
  have hfl := fun W (e : Int) => fail_any W (.pointer (some ⟨b, 0, none⟩)) s.at_ e
  have hb1 := fun (W : World) (hr : Rd W b tx s) => hbr W hr ⟨#[60, 33, 45, 45]⟩
  have hb2 := fun (W : World) (hr : Rd W b tx s) => hbr W hr ⟨#[60, 33, 91, 67, 68, 65, 84, 65, 91]⟩
  have hs1 := fun (W : World) (hr : Rd W b tx s) => hse W hr ⟨#[60, 47]⟩
  simp only at hb1 hb2 hs1
  clear hbr hse h
  cases hB1 : breaksP tx.data.toList [60, 33, 45, 45] s.at_
  · rw [hB1] at hb1
    have hlt2 : s.at_ + 1 < tx.size := by
      by_cases hx : s.at_ + 1 < tx.size
      · exact hx
      · exfalso
        have : tx.data.toList.drop s.at_ = [60] := by
          rw [drop_get hlt, h60, List.drop_eq_nil_of_le (by rw [size_list]; omega)]
        rw [breaks_one this] at hB1
        cases hB1
    cases hB2 : breaksP tx.data.toList [60, 33, 91, 67, 68, 65, 84, 65, 91] s.at_
    · rw [hB2] at hb2
      cases hS1 : seesP tx.data.toList [60, 47] s.at_
      · rw [hS1] at hs1
        have hfo := fun W => firstOf_any W (tx[s.at_ + 1]'hlt2)
        cases hc : beginB (tx[s.at_ + 1]'hlt2).toNat
        · rw [hc] at hfo
          have HG : Hid (tagP tx.data.toList s = .inr (s.at_, 3)) := by simp [tagP, hB1, hB2, hS1, get_some hlt2, hc, Hid]
          clear hB1 hB2 hS1 hc h60
          go_enter Tryz.func83, Tryz.ntmps83
          go_wp2_with fail
          refine (hb1 _ HR.out).mono ?_
          rintro e w1 ⟨rfl, hbl1⟩
          have HR1 : Hid (Rd w1 b tx s) := HR.out.below hbl1 hb
          have HB1 : Hid (Below w.heap.size w w1) := hbl1
          clear hbl1 hb1
          go_wp2_with fail
          refine (hb2 _ HR1.out).mono ?_
          rintro e w2 ⟨rfl, hbl2⟩
          have HB2 : Hid (Below w.heap.size w w2) := HB1.out.trans (hbl2.mono HB1.out.size)
          have HR2 : Hid (Rd w2 b tx s) := HR.out.below HB2.out hb
          clear hbl2 hb2 HB1 HR1 h0 h1 h2 h3 f1 f2 f3
          obtain ⟨h0, h1, h2, h3, f1, f2, f3, hbb⟩ := HR2.out.facts
          have hix : ∀ W : World, (Instr.index 9 (.string tx) (.int .i64 ((s.at_ : Int) + 1))).run Tryz.prog W = .ok (.int .u8 ((tx[s.at_ + 1]'hlt2).toNat : Int)) W := idx_next hlt2
          have hs2 : ∀ u : Bel w2, Calls Tryz.prog 56 #[.pointer (some ⟨b, 0, none⟩), .string ⟨#[60, 47]⟩] u.w fun e w' => e = .returned (.bool false) ∧ Below u.w.heap.size u.w w' := fun u => hs1 u.w (HR2.out.below u.h hbb)
          clear hs1
          go_wp2
          refine wp_region_bel (by kernel_rfl) (by kernel_rfl) ?_
          intro hne
          repeat go_big_quiet_step (first | (go_at_call 56; exact Calls.bel_of (hs2 _)) | (go_at_call 88; exact Calls.bel_of (hfo _)))
          refine wpQuiet_nil ?_
          rintro _ ⟨u, rfl⟩
          have HR3 : Hid (Rd u.w b tx s) := HR2.out.below u.h hbb
          clear h0 h1 h2 h3 f1 f2 f3
          obtain ⟨h0, h1, h2, h3, f1, f2, f3, hbu⟩ := HR3.out.facts
          go_wp2_with fail
          refine (hfl _ _).mono ?_
          rintro e w3 ⟨rfl, rfl⟩
          exact ⟨rfl, Post.no HG.out ((turn_below _ HB2.out (Nat.le_refl _)).then u.h HB2.out.size)⟩
        · rw [hc] at hfo
          have HG : Hid (tagP tx.data.toList s = .inl ((), s)) := by simp [tagP, hB1, hB2, hS1, get_some hlt2, hc, Hid]
          clear hB1 hB2 hS1 hc h60
          go_enter Tryz.func83, Tryz.ntmps83
          go_wp2_with fail
          refine (hb1 _ HR.out).mono ?_
          rintro e w1 ⟨rfl, hbl1⟩
          have HR1 : Hid (Rd w1 b tx s) := HR.out.below hbl1 hb
          have HB1 : Hid (Below w.heap.size w w1) := hbl1
          clear hbl1 hb1
          go_wp2_with fail
          refine (hb2 _ HR1.out).mono ?_
          rintro e w2 ⟨rfl, hbl2⟩
          have HB2 : Hid (Below w.heap.size w w2) := HB1.out.trans (hbl2.mono HB1.out.size)
          have HR2 : Hid (Rd w2 b tx s) := HR.out.below HB2.out hb
          clear hbl2 hb2 HB1 HR1 h0 h1 h2 h3 f1 f2 f3
          obtain ⟨h0, h1, h2, h3, f1, f2, f3, hbb⟩ := HR2.out.facts
          have hix : ∀ W : World, (Instr.index 9 (.string tx) (.int .i64 ((s.at_ : Int) + 1))).run Tryz.prog W = .ok (.int .u8 ((tx[s.at_ + 1]'hlt2).toNat : Int)) W := idx_next hlt2
          have hs2 : ∀ u : Bel w2, Calls Tryz.prog 56 #[.pointer (some ⟨b, 0, none⟩), .string ⟨#[60, 47]⟩] u.w fun e w' => e = .returned (.bool false) ∧ Below u.w.heap.size u.w w' := fun u => hs1 u.w (HR2.out.below u.h hbb)
          clear hs1
          go_wp2
          refine wp_region_bel (by kernel_rfl) (by kernel_rfl) ?_
          intro hne
          repeat go_big_quiet_step (first | (go_at_call 56; exact Calls.bel_of (hs2 _)) | (go_at_call 88; exact Calls.bel_of (hfo _)))
          refine wpQuiet_nil ?_
          rintro _ ⟨u, rfl⟩
          have HR3 : Hid (Rd u.w b tx s) := HR2.out.below u.h hbb
          clear h0 h1 h2 h3 f1 f2 f3
          obtain ⟨h0, h1, h2, h3, f1, f2, f3, hbu⟩ := HR3.out.facts
          go_wp2
          go_end0
          exact Post.yes HG.out rfl HR3.out ((turn_below _ HB2.out (Nat.le_refl _)).then u.h HB2.out.size)
      · rw [hS1] at hs1
        have HG : Hid (tagP tx.data.toList s = .inl ((), s)) := by simp [tagP, hB1, hB2, hS1, Hid]
        clear hB1 hB2 hS1 h60
        go_enter Tryz.func83, Tryz.ntmps83
        go_wp2_with fail
        refine (hb1 _ HR.out).mono ?_
        rintro e w1 ⟨rfl, hbl1⟩
        have HR1 : Hid (Rd w1 b tx s) := HR.out.below hbl1 hb
        have HB1 : Hid (Below w.heap.size w w1) := hbl1
        clear hbl1 hb1
        go_wp2_with fail
        refine (hb2 _ HR1.out).mono ?_
        rintro e w2 ⟨rfl, hbl2⟩
        have HB2 : Hid (Below w.heap.size w w2) := HB1.out.trans (hbl2.mono HB1.out.size)
        have HR2 : Hid (Rd w2 b tx s) := HR.out.below HB2.out hb
        clear hbl2 hb2 HB1 HR1 h0 h1 h2 h3 f1 f2 f3
        obtain ⟨h0, h1, h2, h3, f1, f2, f3, hbb⟩ := HR2.out.facts
        have hs2 : ∀ u : Bel w2, Calls Tryz.prog 56 #[.pointer (some ⟨b, 0, none⟩), .string ⟨#[60, 47]⟩] u.w fun e w' => e = .returned (.bool true) ∧ Below u.w.heap.size u.w w' := fun u => hs1 u.w (HR2.out.below u.h hbb)
        clear hs1
        go_wp2
        refine wp_region_bel (by kernel_rfl) (by kernel_rfl) ?_
        intro hne
        repeat go_big_quiet_step ((go_at_call 56; exact Calls.bel_of (hs2 _)))
        refine wpQuiet_nil ?_
        rintro _ ⟨u, rfl⟩
        have HR3 : Hid (Rd u.w b tx s) := HR2.out.below u.h hbb
        clear h0 h1 h2 h3 f1 f2 f3
        obtain ⟨h0, h1, h2, h3, f1, f2, f3, hbu⟩ := HR3.out.facts
        go_wp2
        go_end0
        exact Post.yes HG.out rfl HR3.out ((turn_below _ HB2.out (Nat.le_refl _)).then u.h HB2.out.size)
    · rw [hB2] at hb2
      have HG : Hid (tagP tx.data.toList s = .inr (s.at_, 4)) := by simp [tagP, hB1, hB2, Hid]
      clear hB1 hB2 h60
      go_enter Tryz.func83, Tryz.ntmps83
      go_wp2_with fail
      refine (hb1 _ HR.out).mono ?_
      rintro e w1 ⟨rfl, hbl1⟩
      have HR1 : Hid (Rd w1 b tx s) := HR.out.below hbl1 hb
      have HB1 : Hid (Below w.heap.size w w1) := hbl1
      clear hbl1 hb1
      go_wp2_with fail
      refine (hb2 _ HR1.out).mono ?_
      rintro e w2 ⟨rfl, hbl2⟩
      have HB2 : Hid (Below w.heap.size w w2) := HB1.out.trans (hbl2.mono HB1.out.size)
      have HR2 : Hid (Rd w2 b tx s) := HR.out.below HB2.out hb
      clear hbl2 hb2 HB1 HR1 h0 h1 h2 h3 f1 f2 f3
      obtain ⟨h0, h1, h2, h3, f1, f2, f3, hbb⟩ := HR2.out.facts
      go_wp2_with fail
      refine (hfl _ _).mono ?_
      rintro e w3 ⟨rfl, rfl⟩
      exact ⟨rfl, Post.no HG.out (turn_below _ HB2.out (Nat.le_refl _))⟩
  · rw [hB1] at hb1
    have HG : Hid (tagP tx.data.toList s = .inr (s.at_, 4)) := by simp [tagP, hB1, Hid]
    clear hB1 h60
    go_enter Tryz.func83, Tryz.ntmps83
    go_wp2_with fail
    refine (hb1 _ HR.out).mono ?_
    rintro e w1 ⟨rfl, hbl1⟩
    have HR1 : Hid (Rd w1 b tx s) := HR.out.below hbl1 hb
    have HB1 : Hid (Below w.heap.size w w1) := hbl1
    clear hbl1 hb1 h0 h1 h2 h3 f1 f2 f3
    obtain ⟨h0, h1, h2, h3, f1, f2, f3, hbb⟩ := HR1.out.facts
    go_wp2_with fail
    refine (hfl _ _).mono ?_
    rintro e w3 ⟨rfl, rfl⟩
    exact ⟨rfl, Post.no HG.out (turn_below _ HB1.out (Nat.le_refl _))⟩

end Go.Proofs.YtmifejkddgcbmaaGreat
