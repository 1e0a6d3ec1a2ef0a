/- What stays true of a list whatever tags come and go: labels rise, and they are written not too often. -/
import Derived.Test.YtkppcnednfjbhaaAfter
import Derived.Test.YtkppcnednfjbhaaPay
namespace Go.Proofs.Ytkppcnednfjbhaa
open Go.RowKit Go.Maps

theorem labAt_set {ns : List Nd} {i : Nat} {n : Nd} (hi : ns[i]? = some n) (l d : Nat) : labAt (ns.set i { n with lab := l }) d = if d = i + 1 then l else labAt ns d := by
  have hlt := (List.getElem?_eq_some_iff.1 hi).1
  cases d with
  | zero => simp [labAt]
  | succ k =>
    show (((ns.set i { n with lab := l })[k]?).map Nd.lab).getD 0 = _
    rw [List.getElem?_set]
    by_cases e : i = k
    · subst e
      simp [hlt]
    · rw [if_neg e, if_neg (by omega)]
      rfl

theorem spreadTo_lab (S : St) (lo base step : Nat) : ∀ j, lo + j ≤ S.ns.length → ∀ d, labAt (spreadTo S lo base step j).ns d = if lo + 1 ≤ d ∧ d ≤ lo + j then base + (d - lo) * step else labAt S.ns d
  | 0, _, d => by rw [if_neg (by omega)]; rfl
  | j + 1, h, d => by
    have ih := spreadTo_lab S lo base step j (by omega)
    have hlen : lo + j < (spreadTo S lo base step j).ns.length := by rw [skel_length (spreadTo_skel S lo base step j)]; omega
    have hn : (spreadTo S lo base step j).ns[lo + j]? = some (spreadTo S lo base step j).ns[lo + j] := List.getElem?_eq_getElem hlen
    rw [spreadTo_succ hn]
    show labAt ((spreadTo S lo base step j).ns.set (lo + j) _) d = _
    rw [labAt_set hn, ih]
    by_cases e : d = lo + j + 1
    · rw [if_pos e, if_pos (by omega), show d - lo = j + 1 from by omega]
    · rw [if_neg e]
      by_cases e2 : lo + 1 ≤ d ∧ d ≤ lo + j
      · rw [if_pos e2, if_pos (by omega)]
      · rw [if_neg e2, if_neg (by omega)]

/-- A place that gets another label is counted. -/
theorem spreadTo_counts (S : St) (lo base step q : Nat) (hq : labAt S.ns (lo + q + 1) = 0) (hpos : 0 < step) : ∀ j, q < j → lo + j ≤ S.ns.length → S.writes + 1 ≤ (spreadTo S lo base step j).writes
  | 0, h, _ => by omega
  | j + 1, h, hl => by
    have hlen : lo + j < (spreadTo S lo base step j).ns.length := by rw [skel_length (spreadTo_skel S lo base step j)]; omega
    have hn : (spreadTo S lo base step j).ns[lo + j]? = some (spreadTo S lo base step j).ns[lo + j] := List.getElem?_eq_getElem hlen
    rw [spreadTo_succ hn]
    by_cases e : q = j
    · subst e
      have h0 := (spreadTo_writes S lo base step q).1
      have h1 := spreadTo_lab S lo base step q (by omega) (lo + q + 1)
      rw [if_neg (by omega), hq] at h1
      have h2 : (spreadTo S lo base step q).ns[lo + q].lab = 0 := by
        simpa [labAt, hn] using h1
      simp only [St.put]
      rw [if_neg (by
        rw [h2]
        have : 0 < (q + 1) * step := Nat.mul_pos (by omega) hpos
        omega)]
      omega
    · have := spreadTo_counts S lo base step q hq hpos j (by omega) (by omega)
      simp only [St.put]
      omega

theorem sumTo_insert {g : Nat → Nat} {c a : Nat} : ∀ {n : Nat}, c ≤ n → sumTo (fun i => if i = c then a else if i < c then g i else g (i - 1)) (n + 1) = sumTo g n + a
  | 0, h => by
    have : c = 0 := by omega
    subst this
    simp [sumTo]
  | n + 1, h => by
    by_cases e : c ≤ n
    · have ih := sumTo_insert (g := g) (c := c) (a := a) e
      have e1 : sumTo (fun i => if i = c then a else if i < c then g i else g (i - 1)) (n + 1 + 1) = sumTo (fun i => if i = c then a else if i < c then g i else g (i - 1)) (n + 1) + (if n + 1 = c then a else if n + 1 < c then g (n + 1) else g (n + 1 - 1)) := rfl
      rw [e1, ih, if_neg (by omega), if_neg (by omega), Nat.add_sub_cancel]
      show _ = sumTo g n + g n + a
      omega
    · have : c = n + 1 := by omega
      subst this
      have e1 : sumTo (fun i => if i = n + 1 then a else if i < n + 1 then g i else g (i - 1)) (n + 1 + 1) = sumTo (fun i => if i = n + 1 then a else if i < n + 1 then g i else g (i - 1)) (n + 1) + (if n + 1 = n + 1 then a else if n + 1 < n + 1 then g (n + 1) else g (n + 1 - 1)) := rfl
      rw [e1, if_pos rfl]
      congr 1
      exact sumTo_congr (fun i hi => by rw [if_neg (by omega), if_pos hi])

theorem cOut_ins {ns : List Nd} {c : Nat} (x : Nd) (hc : c ≤ ns.length) (s v : Nat) : cOut (labAt (ins c x ns)) (ns.length + 1) c s v = cAll (labAt ns) ns.length s v := by
  unfold cOut cAll
  rw [← Nat.add_zero (sumTo (fun i => if labAt ns (i + 1) / s = v then 1 else 0) ns.length), ← sumTo_insert (c := c) (a := 0) hc]
  refine sumTo_congr (fun i _ => ?_)
  by_cases e : i = c
  · rw [if_pos e, if_pos e]
  · rw [if_neg e, if_neg e]
    by_cases e2 : i < c
    · have e3 : labAt (ins c x ns) (i + 1) = labAt ns (i + 1) := by rw [labAt_ins x hc, if_pos (show i + 1 ≤ c by omega)]
      rw [if_pos e2, e3]
    · have e3 : labAt (ins c x ns) (i + 1) = labAt ns (i - 1 + 1) := by
        rw [labAt_ins x hc, if_neg (show ¬ i + 1 ≤ c by omega), if_neg (show ¬ i + 1 = c + 1 by omega), Nat.add_sub_cancel, show i - 1 + 1 = i from by omega]
      rw [if_neg e2, e3]

structure Good (S : St) : Prop where
  fine : Fine S
  lo : S.given ≤ S.writes
  hi : S.writes + 32 * pot (cAll (labAt S.ns) S.ns.length) ≤ 496 * S.given

theorem Good.writes {S : St} (h : Good S) : S.writes ≤ 496 * S.given := by have := h.hi; omega

theorem good_after {S S' : St} {c m nbk : Nat} (h : Good S) (hc : c ≤ S.ns.length) (hlen : S.ns.length < 8192) (hN : Numbered (afterSt S c m nbk) c S') : Good S' ∧ S'.given = S.given + 1 ∧ S'.ns.map Nd.tag = ins c (S.given + 1) (S.ns.map Nd.tag) := by
  have hsk := hN.skel
  have hg : S'.given = S.given + 1 := hsk.2.2
  have htg : S'.ns.map Nd.tag = ins c (S.given + 1) (S.ns.map Nd.tag) := by
    rw [skel_tags hsk.1]
    show (ins c _ S.ns).map Nd.tag = _
    rw [ins_map]
  have hl1 : (afterSt S c m nbk).ns.length = S.ns.length + 1 := ins_length _
  have hl2 : S'.ns.length = S.ns.length + 1 := (skel_length hsk.1).trans hl1
  have htags : ∀ n ∈ S'.ns, 1 ≤ n.tag ∧ n.tag ≤ S'.given := by
    intro n hn
    have : n.tag ∈ S'.ns.map Nd.tag := List.mem_map_of_mem hn
    rw [htg] at this
    rcases mem_ins.1 this with e | e
    · omega
    · obtain ⟨k, hk, e⟩ := List.mem_map.1 e
      have := h.fine.tags k hk
      omega
  have hlab : ∀ d, labAt (afterSt S c m nbk).ns d = if d ≤ c then labAt S.ns d else if d = c + 1 then 0 else labAt S.ns (d - 1) := fun d => labAt_ins _ hc d
  have hr : ∀ a b, a < b → b ≤ S.ns.length + 1 → a ≠ c + 1 → b ≠ c + 1 → labAt (afterSt S c m nbk).ns a < labAt (afterSt S c m nbk).ns b := by
    intro a b hab hb ha' hb'
    rw [hlab, hlab]
    by_cases e1 : b ≤ c
    · rw [if_pos (by omega), if_pos e1]
      exact h.fine.rise a b hab (by omega)
    · rw [if_neg e1, if_neg hb']
      by_cases e2 : a ≤ c
      · rw [if_pos e2]
        exact h.fine.rise a (b - 1) (by omega) (by omega)
      · rw [if_neg e2, if_neg ha']
        exact h.fine.rise (a - 1) (b - 1) (by omega) (by omega)
  have hlow : ∀ a, a ≤ S.ns.length + 1 → labAt (afterSt S c m nbk).ns a < 4611686018427387904 := by
    intro a ha
    rw [hlab]
    split
    · exact h.fine.low a (by omega)
    · split
      · omega
      · exact h.fine.low _ (by omega)
  have hpot : pot (cOut (labAt (afterSt S c m nbk).ns) (S.ns.length + 1) c) = pot (cAll (labAt S.ns) S.ns.length) := by
    congr 1
    funext s v
    exact cOut_ins _ hc s v
  have hhi := h.hi
  have hlo := h.lo
  refine ⟨?_, hg, htg⟩
  rcases hN with ⟨hgap, n, hn, rfl⟩ | ⟨_, K, f, l, hK, hE, hfit, hp, rfl⟩
  · have hn0 : n.lab = 0 := by
      have : (afterSt S c m nbk).ns[c]? = some ⟨nbk, S.given + 1, 0⟩ := by
        show (ins c _ S.ns)[c]? = _
        rw [ins_get _ hc, if_neg (by omega), if_pos rfl]
      rw [hn] at this
      cases this
      rfl
    generalize hx : labAt (afterSt S c m nbk).ns c = x at *
    have hxl : x < 4611686018427387904 := by rw [← hx]; exact hlow c (by omega)
    have hroof : ∀ d, c + 2 ≤ d → d ≤ S.ns.length + 1 → roof (afterSt S c m nbk).ns (c + 1) ≤ labAt (afterSt S c m nbk).ns d := by
      intro d h1 h2
      unfold roof
      rw [if_pos (by omega)]
      by_cases e : d = c + 2
      · rw [e]; exact Nat.le_refl _
      · exact Nat.le_of_lt (hr (c + 2) d (by omega) h2 (by omega) (by omega))
    have hrl : roof (afterSt S c m nbk).ns (c + 1) ≤ 4611686018427387904 := by
      unfold roof
      split
      · exact Nat.le_of_lt (hlow _ (by omega))
      · exact Nat.le_refl _
    generalize roof (afterSt S c m nbk).ns (c + 1) = r at *
    generalize hy : x + min ((r - x) / 2) 281474976710656 = y at *
    have hy1 : x < y := by omega
    have hy2 : y < r := by omega
    have hlab2 : ∀ d, labAt ((afterSt S c m nbk).put c n y).ns d = if d = c + 1 then y else labAt (afterSt S c m nbk).ns d := fun d => labAt_set hn y d
    have hle : ∀ a, a ≤ c → labAt (afterSt S c m nbk).ns a ≤ x := by
      intro a ha
      by_cases e : a = c
      · rw [e, hx]; exact Nat.le_refl _
      · rw [← hx]; exact Nat.le_of_lt (hr a c (by omega) (by omega) (by omega) (by omega))
    refine ⟨⟨by omega, htags, ?_, ?_⟩, ?_, ?_⟩
    · intro a b hab hb
      rw [hl2] at hb
      rw [hlab2, hlab2]
      by_cases e1 : b = c + 1
      · rw [if_pos e1, if_neg (by omega)]
        have := hle a (by omega)
        omega
      · rw [if_neg e1]
        by_cases e2 : a = c + 1
        · rw [if_pos e2]
          have := hroof b (by omega) hb
          omega
        · rw [if_neg e2]
          exact hr a b hab hb e2 e1
    · intro a ha
      rw [hl2] at ha
      rw [hlab2]
      split
      · omega
      · exact hlow a ha
    · show S.given + 1 ≤ S.writes + (if n.lab = y then 0 else 1)
      rw [hn0, if_neg (by omega)]
      omega
    · have h1 : pot (cAll (labAt ((afterSt S c m nbk).put c n y).ns) (S.ns.length + 1)) ≤ pot (cOut (labAt (afterSt S c m nbk).ns) (S.ns.length + 1) c) + 13 := by
        refine pot_one (fun j _ => ⟨y / szK j, fun v => ?_⟩)
        by_cases e : v = y / szK j
        · rw [if_pos e]
          have hone : cAll (labAt ((afterSt S c m nbk).put c n y).ns) (S.ns.length + 1) (szK j) v ≤ cOut (labAt (afterSt S c m nbk).ns) (S.ns.length + 1) c (szK j) v + (if c < S.ns.length + 1 then 1 else 0) := by
            refine sumTo_one (fun i _ => ?_)
            by_cases ei : i = c
            · rw [if_pos ei, if_pos ei]; split <;> omega
            · have e3 : labAt ((afterSt S c m nbk).put c n y).ns (i + 1) = labAt (afterSt S c m nbk).ns (i + 1) := by rw [hlab2, if_neg (show ¬ i + 1 = c + 1 by omega)]
              rw [if_neg ei, if_neg ei, e3]; exact Nat.le_refl _
          split at hone <;> omega
        · rw [if_neg e, Nat.add_zero]
          refine sumTo_le (fun i _ => ?_)
          by_cases ei : i = c
          · have e3 : labAt ((afterSt S c m nbk).put c n y).ns (i + 1) = y := by rw [hlab2, if_pos (show i + 1 = c + 1 by omega)]
            have e4 : ¬ y / szK j = v := fun h => e (Eq.symm h)
            rw [if_pos ei, e3, if_neg e4]; exact Nat.le_refl _
          · have e3 : labAt ((afterSt S c m nbk).put c n y).ns (i + 1) = labAt (afterSt S c m nbk).ns (i + 1) := by rw [hlab2, if_neg (show ¬ i + 1 = c + 1 by omega)]
            rw [if_neg ei, e3]; exact Nat.le_refl _
      rw [hpot] at h1
      show S.writes + (if n.lab = y then 0 else 1) + 32 * pot (cAll _ ((afterSt S c m nbk).put c n y).ns.length) ≤ 496 * (S.given + 1)
      rw [hl2, hn0, if_neg (by omega)]
      omega
  · have hfq := hE.fq
    have hql := hE.ql
    have hf1 := hE.f1
    have hll := hE.ll
    rw [hl1] at hE hll
    have hL2 : ∀ d, labAt (spreadTo (afterSt S c m nbk) (f - 1) (bsK (labAt (afterSt S c m nbk).ns c) K) (szK K / (l - f + 1 + 1)) (l - f + 1)).ns d = if f ≤ d ∧ d ≤ l then bsK (labAt (afterSt S c m nbk).ns c) K + (d - (f - 1)) * (szK K / (l - f + 1 + 1)) else labAt (afterSt S c m nbk).ns d := by
      intro d
      rw [spreadTo_lab _ _ _ _ _ (by omega)]
      by_cases e : f ≤ d ∧ d ≤ l
      · rw [if_pos (by omega), if_pos e]
      · rw [if_neg (by omega), if_neg e]
    rw [hl1] at hp
    obtain ⟨m1, m2, m3⟩ := spread_math rfl hr hlow hK hE hfit hp hL2
    have hw := spreadTo_writes (afterSt S c m nbk) (f - 1) (bsK (labAt (afterSt S c m nbk).ns c) K) (szK K / (l - f + 1 + 1)) (l - f + 1)
    have hwc := spreadTo_counts (afterSt S c m nbk) (f - 1) (bsK (labAt (afterSt S c m nbk).ns c) K) (szK K / (l - f + 1 + 1)) (c + 1 - f)
      (by rw [show f - 1 + (c + 1 - f) + 1 = c + 1 from by omega, hlab, if_neg (by omega), if_pos rfl])
      (Nat.lt_of_lt_of_le (Nat.pow_pos (by decide)) (step_ge hfit)) (l - f + 1) (by omega) (by omega)
    rw [hpot] at m3
    have hws : (afterSt S c m nbk).writes = S.writes := rfl
    refine ⟨⟨by omega, htags, ?_, ?_⟩, by omega, ?_⟩
    · intro a b hab hb
      rw [hl2] at hb
      exact m1 a b hab hb
    · intro a ha
      rw [hl2] at ha
      exact m2 a ha
    · rw [hl2, hg]
      omega

end Go.Proofs.Ytkppcnednfjbhaa
