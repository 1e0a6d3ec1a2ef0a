/- A list as the program holds it, and what each call does to it: the answers, said by the order of its tags alone. -/
import Derived.Test.YtkppcnednfjbhaaGood
import Derived.Test.YtkppcnednfjbhaaDrop
import Derived.Test.YtkppcnednfjbhaaOrder
namespace Go.Proofs.Ytkppcnednfjbhaa
open Go.RowKit Go.Maps

theorem pot_mono {c c' : Nat → Nat → Nat} (h : ∀ s v, c' s v ≤ c s v) : pot c' ≤ pot c :=
  sumTo_le (fun j _ => sumTo_le (fun v _ => by have := h (szK j) v; omega))

theorem labAt_del {ns : List Nd} {c : Nat} (hc : c ≤ ns.length) (d : Nat) : labAt (del c ns) d = if d ≤ c then labAt ns d else labAt ns (d + 1) := by
  cases d with
  | zero => simp [labAt]
  | succ i =>
    show (((del c ns)[i]?).map Nd.lab).getD 0 = _
    rw [del_get hc]
    by_cases h1 : i < c
    · simp only [if_pos h1, if_pos (show i + 1 ≤ c by omega)]
      rfl
    · simp only [if_neg h1, if_neg (show ¬ i + 1 ≤ c by omega)]
      rfl

theorem cAll_del {ns : List Nd} {c : Nat} (hc : c < ns.length) (s v : Nat) : cAll (labAt (del c ns)) (del c ns).length s v ≤ cAll (labAt ns) ns.length s v := by
  unfold cAll
  rw [del_length hc]
  have h1 := sumTo_insert (g := fun i => if labAt (del c ns) (i + 1) / s = v then 1 else 0) (c := c) (a := if labAt ns (c + 1) / s = v then 1 else 0) (n := ns.length - 1) (by omega)
  rw [show ns.length - 1 + 1 = ns.length from by omega] at h1
  have h2 : sumTo (fun i => if i = c then if labAt ns (c + 1) / s = v then 1 else 0 else if i < c then if labAt (del c ns) (i + 1) / s = v then 1 else 0 else if labAt (del c ns) (i - 1 + 1) / s = v then 1 else 0) ns.length = sumTo (fun i => if labAt ns (i + 1) / s = v then 1 else 0) ns.length := by
    refine sumTo_congr (fun i _ => ?_)
    by_cases e : i = c
    · rw [if_pos e, e]
    · rw [if_neg e]
      by_cases e2 : i < c
      · have e3 : labAt (del c ns) (i + 1) = labAt ns (i + 1) := by rw [labAt_del (by omega), if_pos (show i + 1 ≤ c by omega)]
        rw [if_pos e2, e3]
      · have e3 : labAt (del c ns) (i - 1 + 1) = labAt ns (i + 1) := by
          rw [labAt_del (by omega), if_neg (show ¬ i - 1 + 1 ≤ c by omega), show i - 1 + 1 + 1 = i + 1 from by omega]
        rw [if_neg e2, e3]
  rw [h2] at h1
  rw [h1]
  exact Nat.le_add_right _ _

theorem good_del {S : St} {c : Nat} (h : Good S) (hc : c < S.ns.length) : Good { mb := S.mb, ns := del c S.ns, given := S.given, writes := S.writes } := by
  have hl : (del c S.ns).length = S.ns.length - 1 := del_length hc
  have hlab : ∀ d, labAt (del c S.ns) d = if d ≤ c then labAt S.ns d else labAt S.ns (d + 1) := fun d => labAt_del (by omega) d
  have := h.fine.len
  refine ⟨⟨by show (del c S.ns).length ≤ 8192; omega, fun n hn => h.fine.tags n (mem_del hn), ?_, ?_⟩, h.lo, ?_⟩
  · intro a b hab hb
    have hb' : b ≤ (del c S.ns).length := hb
    show labAt (del c S.ns) a < labAt (del c S.ns) b
    rw [hlab, hlab]
    by_cases e1 : b ≤ c
    · rw [if_pos (by omega), if_pos e1]
      exact h.fine.rise a b hab (by omega)
    · rw [if_neg e1]
      by_cases e2 : a ≤ c
      · rw [if_pos e2]
        exact h.fine.rise a (b + 1) (by omega) (by omega)
      · rw [if_neg e2]
        exact h.fine.rise (a + 1) (b + 1) (by omega) (by omega)
  · intro a ha
    have ha' : a ≤ (del c S.ns).length := ha
    show labAt (del c S.ns) a < _
    rw [hlab]
    split
    · exact h.fine.low a (by omega)
    · exact h.fine.low _ (by omega)
  · have h1 : pot (cAll (labAt (del c S.ns)) (del c S.ns).length) ≤ pot (cAll (labAt S.ns) S.ns.length) := pot_mono (fun s v => cAll_del hc s v)
    have h2 := h.hi
    show S.writes + 32 * pot (cAll (labAt (del c S.ns)) (del c S.ns).length) ≤ 496 * S.given
    omega

theorem good_empty (S : St) (h1 : S.ns = []) (h2 : S.given = 0) (h3 : S.writes = 0) : Good S := by
  have hl : S.ns.length = 0 := by rw [h1]; rfl
  refine ⟨⟨by omega, fun n hn => by rw [h1] at hn; simp at hn, fun a b hab hb => by omega, fun a ha => ?_⟩, by omega, ?_⟩
  · have : a = 0 := by omega
    subst this
    simp [labAt]
  · have h0 : pot (cAll (labAt S.ns) S.ns.length) = 0 :=
      sumTo_zero (fun j _ => sumTo_zero (fun v _ => by rw [hl]; simp [cAll, sumTo]))
    omega

/-- Where a tag, or 0, stands, by the tags alone. -/
def pos (T : List Nat) (t : Nat) : Option Nat := if t = 0 then some 0 else (T.findIdx? (fun x => x == t)).map (· + 1)

theorem posOf_pos (ns : List Nd) (t : Nat) : posOf ns t = pos (ns.map Nd.tag) t := by
  unfold posOf pos
  rw [List.findIdx?_map]
  rfl

/-- The tag at a place of the chain. -/
def tg (T : List Nat) : Nat → Nat
  | 0 => 0
  | i + 1 => (T[i]?).getD 0

theorem tagAt_tg (ns : List Nd) (c : Nat) : tagAt ns c = tg (ns.map Nd.tag) c := by
  cases c with
  | zero => rfl
  | succ i => simp [tagAt, tg]

/-- The program's list in memory, with its tags in their order, and all that stays true of it. -/
structure Has (w : World) (pb : Nat) (S : St) (T : List Nat) (g : Nat) : Prop where
  lies : Lies w pb S
  good : Good S
  tags : S.ns.map Nd.tag = T
  given : S.given = g

theorem Has.len {w : World} {pb : Nat} {S : St} {T : List Nat} {g : Nat} (h : Has w pb S T g) : S.ns.length = T.length := by
  rw [← h.tags]; simp

theorem Has.of_turn {w w' : World} {pb : Nat} {S : St} {T : List Nat} {g : Nat} {A : Nat → Prop} (h : Has w pb S T g) (ht : Turn A w w') (hA : ∀ k, Own pb S k → ¬ A k) : Has w' pb S T g :=
  ⟨h.lies.of_turn ht hA, h.good, h.tags, h.given⟩

/-- What After answers, and what it leaves. -/
def afterAns (T : List Nat) (g t : Nat) : Nat × Nat :=
  match pos T t with
  | none => (0, 10)
  | some _ => if 8192 ≤ T.length then (0, 11) else (g + 1, 0)
def afterT (T : List Nat) (g t : Nat) : List Nat :=
  match pos T t with
  | none => T
  | some c => if 8192 ≤ T.length then T else ins c (g + 1) T
def afterG (T : List Nat) (g t : Nat) : Nat :=
  match pos T t with
  | none => g
  | some _ => if 8192 ≤ T.length then g else g + 1

theorem after_has (w : World) (pb : Nat) (S : St) (T : List Nat) (g t : Nat) (h : Has w pb S T g) (ht : t < 18446744073709551616) (hg : g < 18014398509481984) :
    Calls Try.prog 9 #[.pointer (some ⟨pb, 0, none⟩), .int .u64 (t : Int)] w fun e w' => e = .returned (.tuple #[.int .u64 ((afterAns T g t).1 : Int), .int .i64 ((afterAns T g t).2 : Int)]) ∧
      ∃ S', Has w' pb S' (afterT T g t) (afterG T g t) ∧ Turn (Own pb S) w w' ∧ (∀ k, Own pb S' k → Own pb S k ∨ w.heap.size ≤ k) := by
  have hp := posOf_pos S.ns t
  rw [h.tags] at hp
  have hlen := h.len
  have hw := h.good.writes
  rw [h.given] at hw
  cases hc : pos T t with
  | none =>
    rw [hc] at hp
    refine (after_none w pb S t h.lies ht hp).mono ?_
    rintro e w' ⟨rfl, rfl⟩
    refine ⟨by simp [afterAns, hc], S, ?_, Turn.refl _ _, fun k hk => .inl hk⟩
    simp only [afterT, afterG, hc]
    exact h
  | some c =>
    rw [hc] at hp
    by_cases hl : 8192 ≤ T.length
    · refine (after_full w pb S t c h.lies ht hp (by omega)).mono ?_
      rintro e w' ⟨rfl, rfl⟩
      refine ⟨by simp [afterAns, hc, hl], S, ?_, Turn.refl _ _, fun k hk => .inl hk⟩
      simp only [afterT, afterG, hc, if_pos hl]
      exact h
    · refine (after_ok w pb S t c h.lies h.good.fine ht hp (by omega) (by rw [h.given]; omega) (by omega)).mono ?_
      rintro e w' ⟨rfl, m, nbk, S', hnb, hm, hN, hL, hT⟩
      obtain ⟨hG, hg', ht'⟩ := good_after h.good (posOf_le hp) (by omega) hN
      refine ⟨by simp [afterAns, hc, hl, h.given], S', ?_, hT, fun k hk => own_after hm hnb hN.skel.2.1 hN.skel.1 hk⟩
      simp only [afterT, afterG, hc, if_neg hl]
      exact ⟨hL, hG, by rw [ht', h.given, h.tags], by rw [hg', h.given]⟩

def dropAns (T : List Nat) (t : Nat) : Nat :=
  match pos T t with
  | some (_ + 1) => 0
  | _ => 10
def dropT (T : List Nat) (t : Nat) : List Nat :=
  match pos T t with
  | some (c + 1) => del c T
  | _ => T

theorem pos_zero_iff {T : List Nat} {t : Nat} (h : pos T t = some 0) : t = 0 := by
  unfold pos at h
  split at h
  · assumption
  · simp at h

theorem drop_has (w : World) (pb : Nat) (S : St) (T : List Nat) (g t : Nat) (h : Has w pb S T g) (ht : t < 18446744073709551616) :
    Calls Try.prog 16 #[.pointer (some ⟨pb, 0, none⟩), .int .u64 (t : Int)] w fun e w' => e = .returned (.int .i64 (dropAns T t : Int)) ∧
      ∃ S', Has w' pb S' (dropT T t) g ∧ Turn (Own pb S) w w' ∧ (∀ k, Own pb S' k → Own pb S k) ∧ S'.writes = S.writes ∧ (∀ n ∈ S'.ns, n ∈ S.ns) := by
  have hp := posOf_pos S.ns t
  rw [h.tags] at hp
  have hsame : (∀ c, pos T t ≠ some (c + 1)) → blkOf S.ns t = none := by
    intro hne
    by_cases e : t = 0
    · subst e
      unfold blkOf
      rw [Option.map_eq_none_iff, List.find?_eq_none]
      intro n hn hh
      have h1 := (h.good.fine.tags n hn).1
      have h2 : n.tag = 0 := by simpa using hh
      omega
    · cases hb : blkOf S.ns t with
      | none => rfl
      | some b =>
        have h1 := blkOf_pos pb S.ns e
        rw [hb, hp] at h1
        cases hc : pos T t with
        | none => rw [hc] at h1; simp at h1
        | some c =>
          cases c with
          | zero => exact absurd (pos_zero_iff hc) e
          | succ c => exact absurd hc (hne c)
  have hno : (∀ c, pos T t ≠ some (c + 1)) → dropAns T t = 10 ∧ dropT T t = T := by
    intro hne
    unfold dropAns dropT
    cases hc : pos T t with
    | none => exact ⟨rfl, rfl⟩
    | some c =>
      cases c with
      | zero => exact ⟨rfl, rfl⟩
      | succ c => exact absurd hc (hne c)
  by_cases hx : ∃ c, pos T t = some (c + 1)
  · obtain ⟨c, hc⟩ := hx
    rw [hc] at hp
    have hl := posOf_le hp
    have hx : S.ns[c]? = some S.ns[c] := List.getElem?_eq_getElem (by omega)
    have htag := posOf_tag hp
    simp only [tagAt, hx, Option.map_some, Option.getD_some] at htag
    have h0 := drop_some w pb S c S.ns[c] h.lies hx (by omega)
    rw [htag] at h0
    refine h0.mono ?_
    rintro e w' ⟨rfl, hL, hT⟩
    refine ⟨by simp [dropAns, hc], _, ⟨hL, good_del h.good (by omega), ?_, h.given⟩, hT, ?_, rfl, fun n hn => mem_del hn⟩
    · simp only [dropT, hc]
      rw [del_map, h.tags]
    · rintro k (hk | hk | ⟨n, hn, hk⟩)
      · exact .inl hk
      · exact .inr (.inl hk)
      · exact .inr (.inr ⟨n, mem_del hn, hk⟩)
  · have hne : ∀ c, pos T t ≠ some (c + 1) := fun c hc => hx ⟨c, hc⟩
    obtain ⟨e1, e2⟩ := hno hne
    rw [e1, e2]
    refine (drop_none w pb S t h.lies ht (hsame hne)).mono ?_
    rintro e w' ⟨rfl, rfl⟩
    exact ⟨rfl, S, h, Turn.refl _ _, fun k hk => hk, rfl, fun n hn => hn⟩

end Go.Proofs.Ytkppcnednfjbhaa
