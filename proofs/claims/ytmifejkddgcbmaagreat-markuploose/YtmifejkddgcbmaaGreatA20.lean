/- The attributes of an element, as the reader reads them. -/
import Derived.Test.YtmifejkddgcbmaaGreatA19
namespace Go.Proofs.YtmifejkddgcbmaaGreat
open Go.RowKit
set_option linter.unusedVariables false
set_option linter.unusedSimpArgs false

theorem valueF_ok {l : Bs} {q : UInt8} : ∀ (k : Nat) (s s1 : St) (o o1 : Bs), s.at_ ≤ l.length → valueF l q k s o = .inl (o1, s1) → s.at_ ≤ s1.at_ ∧ s1.at_ ≤ l.length ∧ s1.nodes = s.nodes ∧ s1.op = s.op := by
  intro k
  induction k with
  | zero => intro s s1 o o1 hs h; cases h; exact ⟨Nat.le_refl _, hs, rfl, rfl⟩
  | succ k ih =>
    intro s s1 o o1 hs h
    unfold valueF at h
    cases hg : l[s.at_]? with
    | none => rw [hg] at h; cases h
    | some b =>
      have hlt := (List.getElem?_eq_some_iff.1 hg).1
      rw [hg] at h
      simp only at h
      split at h
      · cases h; exact ⟨by simp only; omega, by simp only; omega, rfl, rfl⟩
      · split at h
        · cases h
        · cases hp : letterP l s with
          | inr q_ => obtain ⟨p, e⟩ := q_; rw [hp] at h; cases h
          | inl q_ =>
            obtain ⟨x, s2⟩ := q_
            rw [hp] at h
            simp only at h
            cases hgr : growP s2 o x s.at_ with
            | inr q_ => obtain ⟨p, e⟩ := q_; rw [hgr] at h; cases h
            | inl q_ =>
              obtain ⟨o2, s3⟩ := q_
              rw [hgr] at h
              simp only at h
              obtain ⟨e1, -, -⟩ := growP_ok hgr
              obtain ⟨g1, g2, g3, g4, -⟩ := letterP_ok hp
              subst e1
              obtain ⟨f1, f2, f3, f4⟩ := ih _ _ _ _ g2 h
              exact ⟨by omega, f2, f3.trans g3, f4.trans g4⟩

theorem valueP_ok {l : Bs} {s s1 : St} {x : Bs} (h : valueP l s = .inl (x, s1)) : s.at_ < s1.at_ ∧ s1.at_ ≤ l.length ∧ s1.nodes = s.nodes ∧ s1.op = s.op := by
  unfold valueP at h
  cases hg : l[s.at_]? with
  | none => rw [hg] at h; cases h
  | some q =>
    have hlt := (List.getElem?_eq_some_iff.1 hg).1
    rw [hg] at h
    simp only at h
    split at h
    · obtain ⟨f1, f2, f3, f4⟩ := valueF_ok _ _ _ _ _ (by simp only; omega) h
      exact ⟨by simp only at f1; omega, f2, f3, f4⟩
    · cases h

theorem attrP_ok {l : Bs} {L : List Att} {s s1 : St} {a : Att} (h : attrP l L s = .inl (a, s1)) (hl : L.length ≤ 32) : s.at_ < s1.at_ ∧ s1.at_ ≤ l.length ∧ s1.nodes = s.nodes ∧ s1.op = s.op ∧ L.length < 32 ∧ (∀ x ∈ L, x.1.toList ≠ a.1.toList) := by
  unfold attrP at h
  cases hn : nameP l s with
  | inr q_ => obtain ⟨p, e⟩ := q_; rw [hn] at h; cases h
  | inl q_ =>
    obtain ⟨n, s2⟩ := q_
    rw [hn] at h
    simp only at h
    obtain ⟨e1, -, -, e2, e3, -⟩ := nameP_ok hn
    split at h
    · cases h
    · split at h
      · cases h
      · rename_i h32 hany
        cases hx : expectP l 61 s2 with
        | inr q_ => obtain ⟨p, e⟩ := q_; rw [hx] at h; cases h
        | inl q_ =>
          obtain ⟨u, s3⟩ := q_
          rw [hx] at h
          simp only at h
          obtain ⟨e4, e5⟩ := expectP_ok hx
          cases hv : valueP l s3 with
          | inr q_ => obtain ⟨p, e⟩ := q_; rw [hv] at h; cases h
          | inl q_ =>
            obtain ⟨v, s4⟩ := q_
            rw [hv] at h
            cases h
            obtain ⟨f1, f2, f3, f4⟩ := valueP_ok hv
            subst e4 e1
            simp only at f1 f3 f4
            refine ⟨by omega, f2, f3, f4, by omega, fun x hx he => hany ?_⟩
            rw [List.any_eq_true]
            exact ⟨x, hx, by simpa using he⟩

theorem attrCells_app (l m : List Att) : attrCells (l ++ m) = attrCells l ++ attrCells m := by
  induction l with
  | nil => rfl
  | cons a r ih => simp [attrCells, ih]

/-- What the loop of 'attrs' keeps. -/
def AttrsSt (w : World) (b : Nat) (tx : ByteArray) (s : St) (v : Value) (wr : World) (acc : List Att) (s' : St) (k : Nat) : Prop :=
  acc.length ≤ 32 ∧ Dist acc ∧ tx.size - s'.at_ < k ∧ wr.ownsRow w.heap.size 55 2 v acc.length (attrCells acc) ∧ attrsP tx.data.toList s = attrsF tx.data.toList k s' acc ∧ Rd wr b tx s' ∧ Ok tx s' ∧ Turn (fun x => x = b ∨ w.heap.size ≤ x) w wr

theorem own_row_none (w : World) (B : Nat) : w.ownsRow B 55 2 (.slice none 0 0) ([] : List Att).length (attrCells []) := ⟨rfl, .inl ⟨rfl, rfl⟩⟩
theorem own_row_to {w w' : World} {B : Nat} {e : TypeId} {sz : Nat} {v : Value} {n : Nat} {xs : List Value} (h : w.ownsRow B e sz v n xs) {A : Nat → Prop} (ht : Turn A w w') (hA : ∀ k, B ≤ k → ¬ A k) : w'.ownsRow B e sz v n xs :=
  own_of_block h (fun k hk => ht.block k (World.ownsRow.lt h k hk).2 (hA k (World.ownsRow.lt h k hk).1))

theorem attrsF_step {l : Bs} {k : Nat} {s : St} {acc : List Att} {c : UInt8} (h : l[(blanksP l s).at_]? = some c) (h1 : ¬ (c = 47 ∨ c = 62)) (h2 : (blanksP l s).at_ ≠ s.at_) : attrsF l (k + 1) s acc = match attrP l acc (blanksP l s) with
    | .inr (p, e) => .inr (p, e)
    | .inl (a, s1) => attrsF l k s1 (acc ++ [a]) := by
  simp only [attrsF, h, h1, h2, if_false]
  cases attrP l acc (blanksP l s) <;> rfl

set_option maxRecDepth 100000 in
set_option maxHeartbeats 4000000 in
theorem attrs_any (w : World) (b : Nat) (tx : ByteArray) (s : St) (h : Rd w b tx s) (ok : Ok tx s) :
    Calls Tryz.prog 86 #[.pointer (some ⟨b, 0, none⟩)] w (Post w b tx (· = b) (attrsP tx.data.toList s) fun L e w' => ∃ a cap, e = .returned (.slice a L.length cap) ∧ w'.ownsRow w.heap.size 55 2 (.slice a L.length cap) L.length (attrCells L)) := by
  have hbw := h.facts.2.2.2.2.2.2.2
  have HW : Hid (AttrsSt w b tx s (.slice none 0 0) w [] s (tx.size - s.at_ + 1)) := ⟨by simp, List.Pairwise.nil, by omega, own_row_none _ _, by unfold attrsP; rw [size_list], h, ok, Turn.refl _ _⟩
  have k1 := ok.len
  have hfl := fun W (p : Nat) (e : Int) => fail_any W (.pointer (some ⟨b, 0, none⟩)) p e
  clear h ok
  go_enter Tryz.func86, Tryz.ntmps86
  go_wp2
  go_loopw [3] (fun v3 wr => ∃ (acc : List Att) (s' : St) (k : Nat), Hid (AttrsSt w b tx s v3 wr acc s' k)) (fun _ wr => tx.size - atOf wr b)
  case atStart => exact ⟨[], s, _, HW⟩
  case round =>
    clear HW
    obtain ⟨acc, s', k, hrel⟩ := hrel
    obtain ⟨hol, hdi, hk, hown, hgo, hr, hok, ht⟩ := hrel.out
    clear hrel
    obtain ⟨k, rfl⟩ : ∃ j, k = j + 1 := ⟨k - 1, by omega⟩
    obtain ⟨va, vcap, rfl⟩ := own_slice hown
    have hbl := blanks_any wr b tx s' hr hok
    have HK1 : Hid (Ok tx (blanksP tx.data.toList s')) := hok.blanks
    have HR : Hid (Rd wr b tx s') := hr
    have HO : Hid (wr.ownsRow w.heap.size 55 2 (.slice va acc.length vcap) acc.length (attrCells acc)) := hown
    have HT : Hid (Turn (fun x => x = b ∨ w.heap.size ≤ x) w wr) := ht
    have HGO : Hid (attrsP tx.data.toList s = attrsF tx.data.toList (k + 1) s' acc) := hgo
    have HDI : Hid (Dist acc) := hdi
    have hsz := ht.size
    have hble : s'.at_ ≤ (blanksP tx.data.toList s').at_ := by simp [blanksP]
    have HS1 : Hid ((blanksP tx.data.toList s').nodes = s'.nodes ∧ (blanksP tx.data.toList s').op = s'.op) := ⟨rfl, rfl⟩
    have HST : Hid (∀ c, tx.data.toList[(blanksP tx.data.toList s').at_]? = some c → ¬ (c = 47 ∨ c = 62) → (blanksP tx.data.toList s').at_ ≠ s'.at_ → attrsP tx.data.toList s = match attrP tx.data.toList acc (blanksP tx.data.toList s') with
      | .inr (p, e) => .inr (p, e)
      | .inl (a, s1) => attrsF tx.data.toList k s1 (acc ++ [a])) := fun c h1 h2 h3 => hgo.trans (attrsF_step h1 h2 h3)
    have HEN : Hid (tx.data.toList[(blanksP tx.data.toList s').at_]? = none → attrsP tx.data.toList s = .inr ((blanksP tx.data.toList s').at_, 4)) := fun h1 => by rw [hgo]; simp only [attrsF, h1]
    have HSO : Hid (∀ c, tx.data.toList[(blanksP tx.data.toList s').at_]? = some c → (c = 47 ∨ c = 62) → attrsP tx.data.toList s = .inl ((sortA acc), (blanksP tx.data.toList s'))) := fun c h1 h2 => by rw [hgo]; simp only [attrsF, h1, h2, if_true]
    have HNA : Hid (∀ c, tx.data.toList[(blanksP tx.data.toList s').at_]? = some c → ¬ (c = 47 ∨ c = 62) → (blanksP tx.data.toList s').at_ = s'.at_ → attrsP tx.data.toList s = .inr (s'.at_, 3)) := fun c h1 h2 h3 => by have h1' := h1; rw [h3] at h1'; rw [hgo]; simp only [attrsF, h3, h1', h2, if_true, if_false]
    clear hown hr hok ht hgo HGO hdi
    generalize blanksP tx.data.toList s' = s1 at *
    go_wp2_with fail
    refine hbl.mono ?_
    rintro e w1 ⟨rfl, hr1, ht1⟩
    have hnd := need_any w1 b tx s1 hr1 HK1.out
    have HR1 : Hid (Rd w1 b tx s1) := hr1
    have HO1 : Hid (w1.ownsRow w.heap.size 55 2 (.slice va acc.length vcap) acc.length (attrCells acc)) := own_row_to HO.out ht1 (fun k hk e => by omega)
    have HT1 : Hid (Turn (fun x => x = b ∨ w.heap.size ≤ x) w w1) := HT.out.trans (ht1.mono (fun k _ e => .inl e))
    clear hbl hr1 ht1 HO HT
    by_cases hlt : s1.at_ < tx.size
    · rw [needP_at hlt] at hnd
      have ge := get_some hlt
      by_cases hc : tx[s1.at_]'hlt = 47 ∨ tx[s1.at_]'hlt = 62
      · have HG : Hid (attrsP tx.data.toList s = .inl ((sortA acc), s1)) := HSO.out _ ge hc
        have hc2 : (((tx[s1.at_]'hlt).toNat : Int) == 47) = true ∨ ((((tx[s1.at_]'hlt).toNat : Int) == 47) = false ∧ (((tx[s1.at_]'hlt).toNat : Int) == 62) = true) := by
          rcases hc with hc | hc
          · left; rw [hc]; rfl
          · right; rw [hc]; exact ⟨rfl, rfl⟩
        clear HSO HNA HEN HST ge hc
        generalize tx[s1.at_]'hlt = c at *
        go_wp2_with fail
        refine hnd.mono ?_
        rintro e w2 ⟨⟨rfl, hb2⟩, hr2, -⟩
        have HO2 : Hid (w2.ownsRow w.heap.size 55 2 (.slice va acc.length vcap) acc.length (attrCells acc)) := owns_below HO1.out hb2
        have HT2 : Hid (Turn (fun x => x = b ∨ w.heap.size ≤ x) w w2) := HT1.out.then hb2 HT1.out.size
        have HR2 : Hid (Rd w2 b tx s1) := hr2
        have hso := sort_any w2 w.heap.size acc va vcap HO2.out HDI.out hol
        have hlen : (sortA acc).length = acc.length := (sortA_perm acc).length_eq
        clear hnd hb2 hr2 HO1 HT1 HR1
        rcases hc2 with ta | ⟨ta, tb⟩ <;> (
          go_wp2_with fail
          refine hso.mono ?_
          rintro e w3 ⟨rfl, ho3, ht3⟩
          have HO3 : Hid (w3.ownsRow w.heap.size 55 2 (.slice va acc.length vcap) acc.length (attrCells (sortA acc))) := ho3
          have HR3 : Hid (Rd w3 b tx s1) := HR2.out.of_block (ht3.block b HR2.out.facts.2.2.2.2.2.2.2 (by omega)) (ht3.block 0 (by have := HR2.out.facts.2.2.2.2.2.2.2; omega) (by omega))
          have HT3 : Hid (Turn (fun x => x = b) w w3) := turn_in (HT2.out.trans (ht3.mono (fun k _ e => .inr e)))
          have HLEN : Hid ((sortA acc).length = acc.length) := hlen
          clear hso ho3 ht3 hlen
          go_wp2
          go_ret
          exact Post.yes HG.out ⟨va, vcap, by rw [HLEN.out]; rfl, by rw [HLEN.out]; exact HO3.out⟩ HR3.out HT3.out)
      · have t47 : (((tx[s1.at_]'hlt).toNat : Int) == 47) = false := by
          have : (tx[s1.at_]'hlt).toNat ≠ 47 := fun e => hc (.inl (UInt8.toNat_inj.1 e))
          simp; omega
        have t62 : (((tx[s1.at_]'hlt).toNat : Int) == 62) = false := by
          have : (tx[s1.at_]'hlt).toNat ≠ 62 := fun e => hc (.inr (UInt8.toNat_inj.1 e))
          simp; omega
        by_cases hap : s'.at_ < s1.at_
        · have HG : Hid (attrsP tx.data.toList s = match attrP tx.data.toList acc s1 with
            | .inr (p, e) => .inr (p, e)
            | .inl (a, s1) => attrsF tx.data.toList k s1 (acc ++ [a])) := HST.out _ ge hc (by omega)
          have tap : decide (s'.at_ < s1.at_) = true := by simpa using hap
          clear HSO HNA HEN HST ge hc
          generalize tx[s1.at_]'hlt = c at *
          go_wp2_with fail
          refine hnd.mono ?_
          rintro e w2 ⟨⟨rfl, hb2⟩, hr2, -⟩
          have HO2 : Hid (w2.ownsRow w.heap.size 55 2 (.slice va acc.length vcap) acc.length (attrCells acc)) := owns_below HO1.out hb2
          have HT2 : Hid (Turn (fun x => x = b ∨ w.heap.size ≤ x) w w2) := HT1.out.then hb2 HT1.out.size
          obtain ⟨hrl, -, -⟩ := attrs_row HO2.out rfl
          have hat := attr_any w2 b tx s1 hr2 HK1.out _ va vcap acc hrl (fun k hk => ⟨hk.2.2, by have := hk.2.1; omega⟩) hol
          clear hnd hb2 hr2 HO1 HT1 HR1 hrl
          cases hx : attrP tx.data.toList acc s1 with
          | inr q_ =>
            obtain ⟨p, e⟩ := q_
            rw [hx] at hat
            have HG2 : Hid (attrsP tx.data.toList s = .inr (p, e)) := by show attrsP _ _ = _; rw [HG.out, hx]
            clear hx HG
            go_wp2_with fail
            refine hat.mono ?_
            rintro e w3 ⟨rfl, ht3⟩
            exact ⟨rfl, Post.no HG2.out ((turn_in HT2.out).trans ht3)⟩
          | inl q_ =>
            obtain ⟨a, s2⟩ := q_
            rw [hx] at hat
            have HG2 : Hid (attrsP tx.data.toList s = attrsF tx.data.toList k s2 (acc ++ [a])) := by show attrsP _ _ = _; rw [HG.out, hx]
            obtain ⟨g1, g2, g3, g4, g5, g6⟩ := attrP_ok hx hol
            rw [size_list] at g2
            have HDI2 : Hid (Dist (acc ++ [a])) := by
              show Dist _
              unfold Dist
              rw [List.pairwise_append]
              refine ⟨HDI.out, by simp, fun x hx' y hy => ?_⟩
              simp only [List.mem_singleton] at hy
              subst hy
              exact g6 x hx'
            have HK2 : Hid (Ok tx s2) := ⟨k1, g2, by rw [g3]; exact HK1.out.nodes, by rw [g4]; exact HK1.out.op⟩
            obtain ⟨a1, a2⟩ := a
            clear hx HG g6
            go_wp2_with fail
            refine hat.mono ?_
            rintro e w3 ⟨rfl, hr3, ht3⟩
            have HO3 : Hid (w3.ownsRow w.heap.size 55 2 (.slice va acc.length vcap) acc.length (attrCells acc)) := own_row_to HO2.out ht3 (fun k hk e => by omega)
            have HT3 : Hid (Turn (fun x => x = b ∨ w.heap.size ≤ x) w w3) := HT2.out.trans (ht3.mono (fun k _ e => .inl e))
            have HR3 : Hid (Rd w3 b tx s2) := hr3
            have hs3 := HT3.out.size
            clear hat hr3 ht3 HO2 HT2
            have tok2 : True := trivial
            go_wp2_with (at_builtin; have _t := tok2; refine wpList_app rfl _ _ rfl Tryz.underlying38 infoA rfl (by decide) w.heap.size (.slice va acc.length vcap) acc.length (attrCells acc) rfl (own_of_block HO3.out (fun k hk => Below.heap_alloc _ _ _ (own_block_lt HO3.out k hk).2)) (some ⟨w3.heap.size, 0, none⟩) 1 1 (attrCells [(a1, a2)]) rfl rfl (by have := news_new w3 #[.string a1, .string a2] 55; simpa [attrCells] using this) (attrCells_one _) (by unfold maxLen; omega) (by omega) (by simp; omega) ?_; intro v3 w4 hown3 hg3 _ hat3; clear tok2 _t; obtain ⟨la', lcap', hv3⟩ := own_slice hown3; subst hv3)
            have hb3 := HR3.out.facts.2.2.2.2.2.2.2
            have hrow : ∀ k, k < w.heap.size → w4.heap[k]? = w3.heap[k]? := fun k hk => by
              rw [hg3.block k (by simp; omega) (fun e => by have := (own_block_lt HO3.out k e.symm).1; omega), Below.heap_alloc _ _ _ (by omega)]
            have hr4 : Rd w4 b tx s2 := HR3.out.of_block (hrow b hbw) (hrow 0 (by omega))
            have ht4 : Turn (fun x => x = b ∨ w.heap.size ≤ x) w w4 := ⟨hg3.os.trans HT3.out.os, hg3.tape.trans HT3.out.tape, hg3.output.trans HT3.out.output, by have := hg3.size; simp at this; omega, fun k hk ha => (hrow k hk).trans (HT3.out.block k hk ha)⟩
            have hlen : (acc ++ [(a1, a2)]).length = acc.length + 1 := by simp
            refine ⟨⟨acc ++ [(a1, a2)], s2, k, by omega, HDI2.out, by omega, ?_, HG2.out, hr4, HK2.out, ht4⟩, ?_⟩
            · rw [hlen, attrCells_app]; exact hown3
            · rw [hr4.atOf, HR.out.atOf]; omega
        · have hap2 : s1.at_ = s'.at_ := by omega
          have HG : Hid (attrsP tx.data.toList s = .inr (s1.at_, 3)) := by rw [hap2]; exact HNA.out _ ge hc hap2
          have tap : decide (s'.at_ < s1.at_) = false := by simpa using hap
          clear HSO HNA HEN HST ge hc hap2 hap
          generalize tx[s1.at_]'hlt = c at *
          go_wp2_with fail
          refine hnd.mono ?_
          rintro e w2 ⟨⟨rfl, hb2⟩, hr2, -⟩
          have HT2 : Hid (Turn (fun x => x = b ∨ w.heap.size ≤ x) w w2) := HT1.out.then hb2 HT1.out.size
          obtain ⟨h0, h1, h2, h3, f1, f2, f3, hbb⟩ := hr2.facts
          clear hnd hb2 hr2
          go_wp2_with fail
          refine (hfl _ _ _).mono ?_
          rintro e w3 ⟨rfl, rfl⟩
          exact ⟨rfl, Post.no HG.out (turn_in HT2.out)⟩
    · rw [needP_no hlt] at hnd
      have HG : Hid (attrsP tx.data.toList s = .inr (s1.at_, 4)) := HEN.out (get_no (Nat.le_of_not_lt hlt))
      clear HSO HNA HEN HST hlt
      go_wp2_with fail
      refine hnd.mono ?_
      rintro e w2 ⟨rfl, ht2⟩
      exact ⟨rfl, Post.no HG.out ((turn_in HT1.out).trans ht2)⟩

end Go.Proofs.YtmifejkddgcbmaaGreat

/- Trees that were read: each part in memory of its own. -/
namespace Go.Proofs.YtmifejkddgcbmaaGreat
open Go.RowKit
set_option linter.unusedVariables false
set_option linter.unusedSimpArgs false

/-- Trees one behind the other in a row, each in blocks of its own. -/
def ForS {n : Nat} (TS : (Nat → Prop) → Array Value → T n → Prop) (R : Nat → Prop) (xs : List Value) (L : List (T n)) : Prop :=
  xs.length = L.length * 5 ∧ (∀ u ∈ xs, u.oneCell' = true) ∧ ∃ Rk : Nat → Nat → Prop,
    (∀ i k, L[i]? = some k → ∃ u : Array Value, u.size = 5 ∧ (∀ j, j < 5 → xs[i * 5 + j]? = u[j]?) ∧ TS (Rk i) u k) ∧ (∀ i b, i < L.length → Rk i b → R b) ∧ (∀ i j b, i < j → j < L.length → Rk i b → ¬ Rk j b)

/-- A tree in memory of its own. -/
def TreeS (w : World) : (n : Nat) → (Nat → Prop) → Array Value → T n → Prop
  | 0, _, _, _ => False
  | n + 1, R, v, t => ∃ (a : Option Addr) (ac : Nat) (ka : Option Addr) (kc : Nat) (xs : List Value) (Rf : Nat → Prop),
      v = tv t.kind t.name a t.attrs.length ac t.text ka t.kids.length kc ∧ t.attrs.length ≤ 32 ∧ t.kids.length ≤ 600000 ∧
      w.ownsRow 0 55 2 (.slice a t.attrs.length ac) t.attrs.length (attrCells t.attrs) ∧ w.ownsRow 0 40 5 (.slice ka t.kids.length kc) t.kids.length xs ∧
      ForS (TreeS w n) Rf xs t.kids ∧ (∀ b, Rf b → R b) ∧ (∀ b, (Value.slice a t.attrs.length ac).ownBlock = some b → R b ∧ ¬ Rf b) ∧
      (∀ b, (Value.slice ka t.kids.length kc).ownBlock = some b → R b ∧ ¬ Rf b ∧ (Value.slice a t.attrs.length ac).ownBlock ≠ some b)

theorem ForS.mono {n : Nat} {TS TS' : (Nat → Prop) → Array Value → T n → Prop} {R R' : Nat → Prop} {xs : List Value} {L : List (T n)} (h : ForS TS R xs L) (hT : ∀ S u k, (∀ b, S b → R b) → TS S u k → TS' S u k) (hR : ∀ b, R b → R' b) : ForS TS' R' xs L := by
  obtain ⟨h1, h2, Rk, h3, h4, h5⟩ := h
  refine ⟨h1, h2, Rk, fun i k hk => ?_, fun i b hi hb => hR _ (h4 i b hi hb), h5⟩
  obtain ⟨u, g1, g2, g3⟩ := h3 i k hk
  exact ⟨u, g1, g2, hT _ _ _ (fun b hb => h4 i b (List.getElem?_eq_some_iff.1 hk).1 hb) g3⟩

theorem TreeS.to {w w' : World} : ∀ {n : Nat} {R R' : Nat → Prop} {v : Array Value} {t : T n}, TreeS w n R v t → (∀ b, R b → w'.heap[b]? = w.heap[b]?) → (∀ b, R b → R' b) → TreeS w' n R' v t
  | 0, _, _, _, _, h, _, _ => h.elim
  | n + 1, R, R', v, t, h, hw, hR => by
    obtain ⟨a, ac, ka, kc, xs, Rf, h1, h2, h3, h4, h5, h6, h7, h8, h9⟩ := h
    refine ⟨a, ac, ka, kc, xs, Rf, h1, h2, h3, own_of_block h4 (fun k hk => hw k (h8 k hk).1), own_of_block h5 (fun k hk => hw k (h9 k hk).1), h6.mono (fun S u k hS hk => hk.to (fun b hb => hw b (h7 b (hS b hb))) (fun _ hb => hb)) (fun _ hb => hb), fun b hb => hR b (h7 b hb), fun b hb => ⟨hR b (h8 b hb).1, (h8 b hb).2⟩, fun b hb => ⟨hR b (h9 b hb).1, (h9 b hb).2⟩⟩

theorem ForS.to {w w' : World} {n : Nat} {R R' : Nat → Prop} {xs : List Value} {L : List (T n)} (h : ForS (TreeS w n) R xs L) (hw : ∀ b, R b → w'.heap[b]? = w.heap[b]?) (hR : ∀ b, R b → R' b) : ForS (TreeS w' n) R' xs L :=
  h.mono (fun S u k hS hk => hk.to (fun b hb => hw b (hS b hb)) (fun _ hb => hb)) hR

theorem ForS.nil {n : Nat} (TS : (Nat → Prop) → Array Value → T n → Prop) (R : Nat → Prop) : ForS TS R [] [] := ⟨rfl, fun _ h => by simp at h, fun _ _ => False, fun i k h => by simp at h, fun i b h => by simp at h, fun i j b _ h => by simp at h⟩

theorem TreeS.form {w : World} : ∀ {n : Nat} {R : Nat → Prop} {v : Array Value} {t : T n}, TreeS w n R v t → ∃ k nm a al ac tx ka kl kc, v = #[.int .i64 k, .string nm, .slice a al ac, .string tx, .slice ka kl kc]
  | 0, _, _, _, h => h.elim
  | n + 1, _, v, t, h => by
    obtain ⟨a, ac, ka, kc, _, _, h1, _⟩ := h
    exact ⟨_, _, _, _, _, _, _, _, _, h1⟩

/-- One more behind. -/
theorem ForS.snoc {w : World} {n : Nat} {R S : Nat → Prop} {xs : List Value} {L : List (T n)} (h : ForS (TreeS w n) R xs L) {u : Array Value} {k : T n} (hu : TreeS w n S u k) (hd : ∀ b, R b → ¬ S b) : ForS (TreeS w n) (fun b => R b ∨ S b) (xs ++ u.toList) (L ++ [k]) := by
  obtain ⟨kk, nm, a, al, ac, tx, ka, kl, kc, rfl⟩ := hu.form
  obtain ⟨h1, h2, Rk, h3, h4, h5⟩ := h
  refine ⟨by simp [h1]; omega, fun x hx => ?_, fun i => if i < L.length then Rk i else S, fun i q hq => ?_, fun i b hi hb => ?_, fun i j b hij hj hb => ?_⟩
  · rw [List.mem_append] at hx
    rcases hx with hx | hx
    · exact h2 x hx
    · exact tree_one _ _ _ _ _ _ _ _ _ x (by simpa using hx)
  · by_cases hi : i < L.length
    · rw [List.getElem?_append_left hi] at hq
      obtain ⟨u', g1, g2, g3⟩ := h3 i q hq
      refine ⟨u', g1, fun j hj => ?_, by simpa [hi] using g3⟩
      rw [List.getElem?_append_left (by rw [h1]; omega)]
      exact g2 j hj
    · have hi2 : i = L.length := by
        have := (List.getElem?_eq_some_iff.1 hq).1
        simp at this; omega
      subst hi2
      rw [List.getElem?_append_right (Nat.le_refl _)] at hq
      simp at hq
      subst hq
      refine ⟨_, rfl, fun j hj => ?_, by simpa using hu⟩
      rw [List.getElem?_append_right (by rw [h1]; omega), h1]
      simp
  · by_cases hi2 : i < L.length
    · simp only [hi2, if_true] at hb
      exact .inl (h4 i b hi2 hb)
    · simp only [hi2, if_false] at hb
      exact .inr hb
  · have hj2 : j ≤ L.length := by simp at hj; omega
    have hi2 : i < L.length := by omega
    simp only [hi2, if_true] at hb
    by_cases hj3 : j < L.length
    · simp only [hj3, if_true]
      exact h5 i j b hij hj3 hb
    · simp only [hj3, if_false]
      exact hd b (h4 i b hi2 hb)

/-- A text. -/
theorem treeS_txt (w : World) (d : Nat) (t : Bs) : TreeS w (d + 1) (fun _ => False) #[.int .i64 2, .string ⟨#[]⟩, .slice none 0 0, .string (ba t), .slice none 0 0] (txtT t) :=
  ⟨none, 0, none, 0, [], fun _ => False, rfl, by simp [txtT], by simp [txtT], ⟨rfl, .inl ⟨rfl, rfl⟩⟩, ⟨rfl, .inl ⟨rfl, rfl⟩⟩, ForS.nil _ _, fun _ h => h, fun b h => (by cases h), fun b h => (by cases h)⟩

end Go.Proofs.YtmifejkddgcbmaaGreat
