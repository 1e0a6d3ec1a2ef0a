/- What After does to a list that lies in memory. -/
import Derived.Test.YtkppcnednfjbhaaGiven
namespace Go.Proofs.Ytkppcnednfjbhaa
open Go.RowKit Go.Maps

theorem Turn.trans' {A B : Nat → Prop} {a b c : World} (h : Turn A a b) (k : Turn B b c) (hAB : ∀ i, B i → A i ∨ a.heap.size ≤ i) : Turn A a c :=
  ⟨k.os.trans h.os, k.tape.trans h.tape, k.output.trans h.output, Nat.le_trans h.size k.size, fun i hi ha => (k.block i (Nat.lt_of_lt_of_le hi h.size) (fun hb => by
    rcases hAB i hb with h1 | h1
    · exact ha h1
    · omega)).trans (h.block i hi ha)⟩

/-- How the place c, just put in without a label, gets one. -/
def Numbered (S : St) (c : Nat) (S' : St) : Prop :=
  (2 ≤ roof S.ns (c + 1) - labAt S.ns c ∧ ∃ n, S.ns[c]? = some n ∧ S' = S.put c n (labAt S.ns c + min ((roof S.ns (c + 1) - labAt S.ns c) / 2) 281474976710656)) ∨
  (roof S.ns (c + 1) - labAt S.ns c < 2 ∧ ∃ K f l, K ≤ 13 ∧ Ext (labAt S.ns) S.ns.length c (bsK (labAt S.ns c) K) (szK K) f l ∧ l - f + 1 ≤ 2 ^ K ∧
    (K = 0 ∨ ∃ K' f' l', K = K' + 1 ∧ Ext (labAt S.ns) S.ns.length c (bsK (labAt S.ns c) K') (szK K') f' l' ∧ 2 ^ K' < l' - f' + 1) ∧
    S' = spreadTo S (f - 1) (bsK (labAt S.ns c) K) (szK K / (l - f + 1 + 1)) (l - f + 1))

theorem Numbered.skel {S S' : St} {c : Nat} (h : Numbered S c S') : skel S'.ns = skel S.ns ∧ S'.mb = S.mb ∧ S'.given = S.given := by
  rcases h with ⟨_, n, hn, rfl⟩ | ⟨_, K, f, l, _, _, _, _, rfl⟩
  · exact ⟨skel_set hn _, rfl, rfl⟩
  · exact ⟨spreadTo_skel _ _ _ _ _, spreadTo_mb _ _ _ _ _, spreadTo_given _ _ _ _ _⟩

def afterSt (S : St) (c m nbk : Nat) : St := { mb := some m, ns := ins c ⟨nbk, S.given + 1, 0⟩ S.ns, given := S.given + 1, writes := S.writes }

theorem labAt_ins {ns : List Nd} {c : Nat} (x : Nd) (hc : c ≤ ns.length) (d : Nat) : labAt (ins c x ns) d = if d ≤ c then labAt ns d else if d = c + 1 then x.lab else labAt ns (d - 1) := by
  cases d with
  | zero => simp [labAt]
  | succ i =>
    show (((ins c x ns)[i]?).map Nd.lab).getD 0 = _
    rw [ins_get x hc]
    by_cases h1 : i < c
    · simp only [if_pos h1, if_pos (show i + 1 ≤ c by omega)]
      rfl
    · by_cases h2 : i = c
      · simp only [if_neg h1, if_pos h2, if_neg (show ¬ i + 1 ≤ c by omega), if_pos (show i + 1 = c + 1 by omega)]
        rfl
      · simp only [if_neg h1, if_neg h2, if_neg (show ¬ i + 1 ≤ c by omega), if_neg (show ¬ i + 1 = c + 1 by omega)]
        obtain ⟨j, rfl⟩ : ∃ j, i = j + 1 := ⟨i - 1, by omega⟩
        rfl

theorem tagAt_ins {ns : List Nd} {c : Nat} (x : Nd) (hc : c ≤ ns.length) (d : Nat) : tagAt (ins c x ns) d = if d ≤ c then tagAt ns d else if d = c + 1 then x.tag else tagAt ns (d - 1) := by
  cases d with
  | zero => simp [tagAt]
  | succ i =>
    show (((ins c x ns)[i]?).map Nd.tag).getD 0 = _
    rw [ins_get x hc]
    by_cases h1 : i < c
    · simp only [if_pos h1, if_pos (show i + 1 ≤ c by omega)]
      rfl
    · by_cases h2 : i = c
      · simp only [if_neg h1, if_pos h2, if_neg (show ¬ i + 1 ≤ c by omega), if_pos (show i + 1 = c + 1 by omega)]
        rfl
      · simp only [if_neg h1, if_neg h2, if_neg (show ¬ i + 1 ≤ c by omega), if_neg (show ¬ i + 1 = c + 1 by omega)]
        obtain ⟨j, rfl⟩ : ∃ j, i = j + 1 := ⟨i - 1, by omega⟩
        rfl

/-- What is kept of a list, but for how often labels were written. -/
structure Fine (S : St) : Prop where
  len : S.ns.length ≤ 8192
  tags : ∀ n ∈ S.ns, 1 ≤ n.tag ∧ n.tag ≤ S.given
  rise : ∀ c d, c < d → d ≤ S.ns.length → labAt S.ns c < labAt S.ns d
  low : ∀ c, c ≤ S.ns.length → labAt S.ns c < 4611686018427387904

theorem Fine.tagAt_ne {S : St} (h : Fine S) {c : Nat} (h1 : 1 ≤ c) (h2 : c ≤ S.ns.length) : tagAt S.ns c ≠ 0 := by
  obtain ⟨i, rfl⟩ : ∃ i, c = i + 1 := ⟨c - 1, by omega⟩
  have hi : S.ns[i]? = some S.ns[i] := List.getElem?_eq_getElem (by omega)
  have := (h.tags _ (List.mem_of_getElem? hi)).1
  simp only [tagAt, hi, Option.map_some, Option.getD_some]
  omega

theorem Fine.fresh {S : St} (h : Fine S) : S.given + 1 ∉ S.ns.map Nd.tag := by
  intro hm
  obtain ⟨n, hn, e⟩ := List.mem_map.1 hm
  have := (h.tags n hn).2
  omega

theorem number_fine (w : World) (pb : Nat) (S : St) (c m nbk : Nat) (hS : Fine S) (hc : c ≤ S.ns.length) (hlen : S.ns.length < 8192) (h : Lies w pb (afterSt S c m nbk)) (hwr : S.writes + 8192 < 18446744073709551616) :
    Calls Try.prog 27 #[.pointer (some ⟨pb, 0, none⟩), .pointer (some ⟨nbk, 0, none⟩)] w fun e w' => e = .returned (.tuple #[]) ∧ Turn (Own pb (afterSt S c m nbk)) w w' ∧ ∃ S', Numbered (afterSt S c m nbk) c S' ∧ Lies w' pb S' := by
  have hn : (afterSt S c m nbk).ns[c]? = some ⟨nbk, S.given + 1, 0⟩ := by
    show (ins c _ S.ns)[c]? = _
    rw [ins_get _ hc, if_neg (by omega), if_pos rfl]
  have hl : (afterSt S c m nbk).ns.length = S.ns.length + 1 := ins_length _
  have hp : prevOf pb (afterSt S c m nbk).ns (c + 1) = some ⟨nbk, 0, none⟩ := by simp [prevOf, ptrN, hn]
  have hlabs : ∀ d, labAt (afterSt S c m nbk).ns d = if d ≤ c then labAt S.ns d else if d = c + 1 then 0 else labAt S.ns (d - 1) := fun d => labAt_ins _ hc d
  have htags : ∀ d, tagAt (afterSt S c m nbk).ns d = if d ≤ c then tagAt S.ns d else if d = c + 1 then S.given + 1 else tagAt S.ns (d - 1) := fun d => tagAt_ins _ hc d
  have h0 := number_any w pb (afterSt S c m nbk) c _ h hn (by omega) hwr
    (fun d h1 h2 => by
      rw [hlabs]
      split
      · exact hS.low d (by omega)
      · split
        · omega
        · exact hS.low _ (by omega))
    (fun d h1 h2 => by
      rw [hlabs, hlabs, if_pos (Nat.le_refl _), if_neg (by omega), if_neg (by omega)]
      exact Nat.le_of_lt (hS.rise c (d - 1) (by omega) (by omega)))
    (fun d h1 h2 => by
      rw [htags]
      split
      · exact hS.tagAt_ne h1 (by omega)
      · split
        · omega
        · exact hS.tagAt_ne (by omega) (by omega))
  rw [hp] at h0
  refine h0.mono ?_
  rintro e w' ⟨rfl, hT, h1 | ⟨h1, K, f, l, h2, h3, h4, h5, h6⟩⟩
  · exact ⟨rfl, hT, _, .inl ⟨h1.1, _, hn, rfl⟩, h1.2⟩
  · exact ⟨rfl, hT, _, .inr ⟨h1, K, f, l, h2, h3, h4, h5, rfl⟩, h6⟩

theorem own_after {pb : Nat} {S S' : St} {c m nbk B : Nat} (hm : S.mb = some m ∨ B ≤ m) (hn : B ≤ nbk) (hmb : S'.mb = some m) (hs : skel S'.ns = skel (ins c ⟨nbk, S.given + 1, 0⟩ S.ns)) {k : Nat} (h : Own pb S' k) : Own pb S k ∨ B ≤ k := by
  have h' : Own pb (afterSt S c m nbk) k := own_skel (S := S') (S' := afterSt S c m nbk) hmb hs h
  rcases h' with rfl | h' | ⟨n, hn', rfl⟩
  · exact .inl (.inl rfl)
  · have : m = k := Option.some.inj h'
    subst this
    rcases hm with hm | hm
    · exact .inl (.inr (.inl hm))
    · exact .inr hm
  · rcases mem_ins.1 hn' with rfl | hn'
    · exact .inr hn
    · exact .inl (.inr (.inr ⟨n, hn', rfl⟩))

set_option maxRecDepth 100000 in
set_option maxHeartbeats 1000000 in
theorem after_ok (w : World) (pb : Nat) (S : St) (t c : Nat) (h : Lies w pb S) (hS : Fine S) (ht : t < 18446744073709551616) (hc : posOf S.ns t = some c) (hlen : S.ns.length < 8192) (hgv : S.given < 18446744073709551615) (hwr : S.writes + 8192 < 18446744073709551616) :
    Calls Try.prog 9 #[.pointer (some ⟨pb, 0, none⟩), .int .u64 (t : Int)] w fun e w' => e = .returned (.tuple #[.int .u64 ((S.given + 1 : Nat) : Int), .int .i64 0]) ∧
      ∃ m nbk S', w.heap.size ≤ nbk ∧ (S.mb = some m ∨ w.heap.size ≤ m) ∧ Numbered (afterSt S c m nbk) c S' ∧ Lies w' pb S' ∧ Turn (Own pb S) w w' := by
  have hcl := posOf_le hc
  obtain ⟨b, o, hb, -⟩ := h.place hcl
  have hfind := find_any w pb S t h ht
  rw [hc, Option.bind_some, hb] at hfind
  have hp : w.cell? ⟨pb, 0, none⟩ = some (.map S.mb) := by rw [h.head.cell]; rfl
  have hrun := fun ty => h.map.len ty
  have hgive := give_any w pb S c h hcl hgv hlen hS.fresh
  rw [hb] at hgive
  have hlen' : ((S.ns.length : Nat) : Int) < 8192 := by omega
  have Hc : Hid (posOf S.ns t = some c) := hc
  have HS : Hid (Fine S) := hS
  have Hl : Hid (S.ns.length < 8192) := hlen
  have Hw : Hid (S.writes + 8192 < 18446744073709551616) := hwr
  clear hb hc h hlen hS hwr hcl
  go_enter Try.func9, Try.ntmps9
  go_wp2_with fail
  refine hfind.mono ?_
  rintro e w1 ⟨rfl, rfl⟩
  go_wp2_with fail
  refine hgive.mono ?_
  rintro e w2 ⟨m, nbk, rfl, hnbk, hm, hL1, hT1⟩
  have hnum := number_fine w2 pb S c m nbk HS.out (posOf_le Hc.out) Hl.out hL1 Hw.out
  have HL1 : Hid (Lies w2 pb (afterSt S c m nbk)) := hL1
  have HT1 : Hid (Turn (Own pb S) w1 w2) := hT1
  have Hm : Hid (S.mb = some m ∨ w1.heap.size ≤ m) := hm
  have Hn : Hid (w1.heap.size ≤ nbk) := hnbk
  clear hL1 hT1 hm hnbk hrun hp hfind hgive
  go_wp2_with fail
  refine hnum.mono ?_
  rintro e w3 ⟨rfl, hT2, S', hN, hL2⟩
  have hsk := hN.skel
  have hcell : w3.cell? ⟨nbk, 0, none⟩ = some (.int .u64 ((S.given + 1 : Nat) : Int)) := by
    have hcl := posOf_le Hc.out
    obtain ⟨b1, o1, hb1, ht1, -⟩ := hL2.place (c := c + 1) (by rw [skel_length hsk.1]; show _ ≤ (ins c _ S.ns).length; rw [ins_length]; omega)
    have e1 : prevOf pb S'.ns (c + 1) = some ⟨nbk, 0, none⟩ := by
      rw [skel_prevOf hsk.1]
      show ptrN (ins c _ S.ns) c = _
      rw [ptrN_ins _ hcl, if_neg (by omega), if_pos rfl]
    have e2 : tagAt S'.ns (c + 1) = S.given + 1 := by
      have := congrArg (fun o => (o.map Prod.snd).getD 0) (skel_at hsk.1 c)
      have e3 : (afterSt S c m nbk).ns[c]? = some ⟨nbk, S.given + 1, 0⟩ := by
        show (ins c _ S.ns)[c]? = _
        rw [ins_get _ hcl, if_neg (by omega), if_pos rfl]
      rw [e3] at this
      simpa [tagAt, Function.comp_def] using this
    rw [hb1] at e1
    simp only [Option.some.injEq, Addr.mk.injEq] at e1
    obtain ⟨rfl, rfl, _⟩ := e1
    rw [ht1, e2]
  have HE : Hid (∃ m nbk S', w1.heap.size ≤ nbk ∧ (S.mb = some m ∨ w1.heap.size ≤ m) ∧ Numbered (afterSt S c m nbk) c S' ∧ Lies w3 pb S' ∧ Turn (Own pb S) w1 w3) :=
    ⟨m, nbk, S', Hn.out, Hm.out, hN, hL2, HT1.out.trans' hT2 (fun i hi => own_after Hm.out Hn.out rfl rfl hi)⟩
  clear hT2 hN hL2 hsk hnum
  go_wp2
  go_ret2
  exact ⟨rfl, HE.out⟩

set_option maxRecDepth 100000 in
set_option maxHeartbeats 1000000 in
theorem after_none (w : World) (pb : Nat) (S : St) (t : Nat) (h : Lies w pb S) (ht : t < 18446744073709551616) (hc : posOf S.ns t = none) :
    Calls Try.prog 9 #[.pointer (some ⟨pb, 0, none⟩), .int .u64 (t : Int)] w fun e w' => e = .returned (.tuple #[.int .u64 0, .int .i64 10]) ∧ w' = w := by
  have hfind := find_any w pb S t h ht
  rw [hc, Option.bind_none] at hfind
  clear hc h
  go_enter Try.func9, Try.ntmps9
  go_wp2_with (go_at_call 25; refine hfind.mono ?_; rintro e w' ⟨rfl, rfl⟩)
  go_ret2
  exact ⟨rfl, rfl⟩

set_option maxRecDepth 100000 in
set_option maxHeartbeats 1000000 in
theorem after_full (w : World) (pb : Nat) (S : St) (t c : Nat) (h : Lies w pb S) (ht : t < 18446744073709551616) (hc : posOf S.ns t = some c) (hlen : 8192 ≤ S.ns.length) :
    Calls Try.prog 9 #[.pointer (some ⟨pb, 0, none⟩), .int .u64 (t : Int)] w fun e w' => e = .returned (.tuple #[.int .u64 0, .int .i64 11]) ∧ w' = w := by
  obtain ⟨b, o, hb, -⟩ := h.place (posOf_le hc)
  have hfind := find_any w pb S t h ht
  rw [hc, Option.bind_some, hb] at hfind
  have hp : w.cell? ⟨pb, 0, none⟩ = some (.map S.mb) := by rw [h.head.cell]; rfl
  have hrun := fun ty => h.map.len ty
  have hlen' : 8192 ≤ ((S.ns.length : Nat) : Int) := by omega
  clear hb hc h hlen
  go_enter Try.func9, Try.ntmps9
  go_wp2_with (go_at_call 25; refine hfind.mono ?_; rintro e w' ⟨rfl, rfl⟩)
  go_ret2
  exact ⟨rfl, rfl⟩

end Go.Proofs.Ytkppcnednfjbhaa
