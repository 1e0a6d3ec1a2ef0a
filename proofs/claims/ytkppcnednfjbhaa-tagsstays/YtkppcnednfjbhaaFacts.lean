/- Small facts on where tags stand, and the calls that only read, said by the order of the tags alone. -/
import Derived.Test.YtkppcnednfjbhaaKeep
namespace Go.Proofs.Ytkppcnednfjbhaa
open Go.RowKit Go.Maps

theorem Has.nodup {w : World} {pb : Nat} {S : St} {T : List Nat} {g : Nat} (h : Has w pb S T g) : T.Nodup := by rw [← h.tags]; exact h.lies.apart
theorem Has.mem {w : World} {pb : Nat} {S : St} {T : List Nat} {g : Nat} (h : Has w pb S T g) {t : Nat} (ht : t ∈ T) : 1 ≤ t ∧ t ≤ g := by
  rw [← h.tags] at ht
  obtain ⟨n, hn, e⟩ := List.mem_map.1 ht
  have := h.good.fine.tags n hn
  have := h.given
  omega
theorem Has.tlen {w : World} {pb : Nat} {S : St} {T : List Nat} {g : Nat} (h : Has w pb S T g) : T.length ≤ 8192 := by
  rw [← h.len]; exact h.good.fine.len

theorem pos_of_mem {T : List Nat} {t : Nat} (h : t = 0 ∨ t ∈ T) : ∃ c, pos T t = some c := by
  unfold pos
  by_cases e : t = 0
  · rw [if_pos e]; exact ⟨0, rfl⟩
  · rw [if_neg e]
    have ht : t ∈ T := h.resolve_left e
    cases hf : T.findIdx? (fun x => x == t) with
    | none =>
      rw [List.findIdx?_eq_none_iff] at hf
      have := hf t ht
      simp at this
    | some i => exact ⟨i + 1, rfl⟩

theorem pos_none_of {T : List Nat} {t : Nat} (h0 : t ≠ 0) (h : t ∉ T) : pos T t = none := by
  unfold pos
  rw [if_neg h0, Option.map_eq_none_iff, List.findIdx?_eq_none_iff]
  intro x hx
  exact beq_eq_false_iff_ne.2 (fun e => h (e ▸ hx))

theorem pos_some_iff {T : List Nat} {t c : Nat} (h : pos T t = some c) : (t = 0 ∧ c = 0) ∨ ∃ i, c = i + 1 ∧ T[i]? = some t := by
  unfold pos at h
  split at h
  · rename_i e; simp at h; exact .inl ⟨e, h.symm⟩
  · simp only [Option.map_eq_some_iff] at h
    obtain ⟨i, hi, rfl⟩ := h
    obtain ⟨h1, h2, _⟩ := List.findIdx?_eq_some_iff_getElem.1 hi
    refine .inr ⟨i, rfl, ?_⟩
    rw [List.getElem?_eq_getElem h1]
    simpa using h2

theorem pos_get {T : List Nat} {i t : Nat} (hd : T.Nodup) (h0 : t ≠ 0) (h : T[i]? = some t) : pos T t = some (i + 1) := by
  obtain ⟨c, hc⟩ := pos_of_mem (T := T) (t := t) (.inr (List.mem_of_getElem? h))
  rcases pos_some_iff hc with ⟨e, _⟩ | ⟨j, rfl, hj⟩
  · exact absurd e h0
  · rw [hc]
    obtain ⟨li, ei⟩ := List.getElem?_eq_some_iff.1 h
    obtain ⟨lj, ej⟩ := List.getElem?_eq_some_iff.1 hj
    rw [List.nodup_iff_pairwise_ne, List.pairwise_iff_getElem] at hd
    rcases Nat.lt_trichotomy i j with hlt | heq | hgt
    · have := hd i j li lj hlt
      rw [ei, ej] at this
      exact absurd rfl this
    · rw [heq]
    · have := hd j i lj li hgt
      rw [ei, ej] at this
      exact absurd rfl this

theorem pos_tg {T : List Nat} (hd : T.Nodup) (h0 : ∀ t ∈ T, t ≠ 0) {c : Nat} (hc : c ≤ T.length) : pos T (tg T c) = some c := by
  cases c with
  | zero => rfl
  | succ i =>
    have hi : T[i]? = some T[i] := List.getElem?_eq_getElem (by omega)
    have e : tg T (i + 1) = T[i] := by simp [tg, hi]
    rw [e]
    exact pos_get hd (h0 _ (List.mem_of_getElem? hi)) hi

theorem tg_ne {T : List Nat} (h0 : ∀ t ∈ T, t ≠ 0) {c : Nat} (h1 : 1 ≤ c) (hc : c ≤ T.length) : tg T c ≠ 0 := by
  obtain ⟨i, rfl⟩ : ∃ i, c = i + 1 := ⟨c - 1, by omega⟩
  have hi : T[i]? = some T[i] := List.getElem?_eq_getElem (by omega)
  have e : tg T (i + 1) = T[i] := by simp [tg, hi]
  rw [e]
  exact h0 _ (List.mem_of_getElem? hi)
theorem tg_out {T : List Nat} {c : Nat} (hc : T.length < c) : tg T c = 0 := by
  obtain ⟨i, rfl⟩ : ∃ i, c = i + 1 := ⟨c - 1, by omega⟩
  simp only [tg]
  rw [List.getElem?_eq_none (by omega)]
  rfl
theorem tg_mem {T : List Nat} {c : Nat} : tg T c = 0 ∨ tg T c ∈ T := by
  cases c with
  | zero => exact .inl rfl
  | succ i =>
    simp only [tg]
    cases h : T[i]? with
    | none => exact .inl rfl
    | some x => exact .inr (List.mem_of_getElem? h)

theorem Has.pos_eq {w : World} {pb : Nat} {S : St} {T : List Nat} {g : Nat} (h : Has w pb S T g) (t : Nat) : posOf S.ns t = pos T t := by rw [posOf_pos, h.tags]
theorem Has.tag_eq {w : World} {pb : Nat} {S : St} {T : List Nat} {g : Nat} (h : Has w pb S T g) (c : Nat) : tagAt S.ns c = tg T c := by rw [tagAt_tg, h.tags]
theorem Has.ne {w : World} {pb : Nat} {S : St} {T : List Nat} {g : Nat} (h : Has w pb S T g) {t : Nat} (ht : t ∈ T) : t ≠ 0 := by have := h.mem ht; omega

theorem Has.label {w : World} {pb : Nat} {S : St} {T : List Nat} {g : Nat} (h : Has w pb S T g) {t c : Nat} (ht : t < 18446744073709551616) (hc : pos T t = some c) :
    Calls Try.prog 11 #[.pointer (some ⟨pb, 0, none⟩), .int .u64 (t : Int)] w fun e w' => e = .returned (.tuple #[.int .u64 (labAt S.ns c), .int .i64 0]) ∧ w' = w :=
  label_some w pb S t c h.lies ht (by rw [h.pos_eq]; exact hc)
theorem Has.label_no {w : World} {pb : Nat} {S : St} {T : List Nat} {g : Nat} (h : Has w pb S T g) {t : Nat} (ht : t < 18446744073709551616) (hc : pos T t = none) :
    Calls Try.prog 11 #[.pointer (some ⟨pb, 0, none⟩), .int .u64 (t : Int)] w fun e w' => e = .returned (.tuple #[.int .u64 0, .int .i64 10]) ∧ w' = w :=
  label_none w pb S t h.lies ht (by rw [h.pos_eq]; exact hc)

def nextAns (T : List Nat) (t : Nat) : Nat × Nat := match pos T t with | none => (0, 10) | some c => (tg T (c + 1), 0)
def prevAns (T : List Nat) (t : Nat) : Nat × Nat := match pos T t with | none => (0, 10) | some c => (tg T (c - 1), 0)
def orderAns (T : List Nat) (t s : Nat) : Int × Nat := match pos T t, pos T s with | some c, some d => (sgn c d, 0) | _, _ => (0, 10)

theorem Has.next {w : World} {pb : Nat} {S : St} {T : List Nat} {g : Nat} (h : Has w pb S T g) {t : Nat} (ht : t < 18446744073709551616) :
    Calls Try.prog 15 #[.pointer (some ⟨pb, 0, none⟩), .int .u64 (t : Int)] w fun e w' => e = .returned (.tuple #[.int .u64 ((nextAns T t).1 : Int), .int .i64 ((nextAns T t).2 : Int)]) ∧ w' = w := by
  unfold nextAns
  cases hc : pos T t with
  | none => exact next_none w pb S t h.lies ht (by rw [h.pos_eq]; exact hc)
  | some c =>
    have := next_some w pb S t c h.lies ht (by rw [h.pos_eq]; exact hc)
    rw [h.tag_eq] at this
    exact this
theorem Has.prev {w : World} {pb : Nat} {S : St} {T : List Nat} {g : Nat} (h : Has w pb S T g) {t : Nat} (ht : t < 18446744073709551616) :
    Calls Try.prog 22 #[.pointer (some ⟨pb, 0, none⟩), .int .u64 (t : Int)] w fun e w' => e = .returned (.tuple #[.int .u64 ((prevAns T t).1 : Int), .int .i64 ((prevAns T t).2 : Int)]) ∧ w' = w := by
  unfold prevAns
  cases hc : pos T t with
  | none => exact prev_none w pb S t h.lies ht (by rw [h.pos_eq]; exact hc)
  | some c =>
    have := prev_some w pb S t c h.lies ht (by rw [h.pos_eq]; exact hc)
    rw [h.tag_eq] at this
    exact this

theorem Has.sgn_eq {w : World} {pb : Nat} {S : St} {T : List Nat} {g : Nat} (h : Has w pb S T g) {c d : Nat} (hc : c ≤ T.length) (hd : d ≤ T.length) : sgn (labAt S.ns c) (labAt S.ns d) = sgn c d := by
  have hl := h.len
  have hr := h.good.fine.rise
  unfold sgn
  rcases Nat.lt_trichotomy c d with e | e | e
  · rw [if_pos (hr c d e (by omega)), if_pos e]
  · subst e; rw [if_neg (by omega), if_neg (by omega), if_neg (by omega), if_neg (by omega)]
  · have := hr d c e (by omega)
    rw [if_neg (by omega), if_pos this, if_neg (by omega), if_pos e]

theorem Has.order {w : World} {pb : Nat} {S : St} {T : List Nat} {g : Nat} (h : Has w pb S T g) {t s : Nat} (ht : t < 18446744073709551616) (hs : s < 18446744073709551616) :
    Calls Try.prog 14 #[.pointer (some ⟨pb, 0, none⟩), .int .u64 (t : Int), .int .u64 (s : Int)] w fun e w' => e = .returned (.tuple #[.int .i64 (orderAns T t s).1, .int .i64 ((orderAns T t s).2 : Int)]) ∧ ∃ n, w' = w.drewN n := by
  unfold orderAns
  cases hc : pos T t with
  | none =>
    refine (order_none w pb S t s h.lies ht hs (.inl (by rw [h.pos_eq]; exact hc))).mono ?_
    rintro e w' ⟨rfl, rfl⟩
    exact ⟨rfl, 0, rfl⟩
  | some c =>
    cases hd : pos T s with
    | none =>
      refine (order_none w pb S t s h.lies ht hs (.inr (by rw [h.pos_eq]; exact hd))).mono ?_
      rintro e w' ⟨rfl, rfl⟩
      exact ⟨rfl, 0, rfl⟩
    | some d =>
      have hc' : posOf S.ns t = some c := by rw [h.pos_eq]; exact hc
      have hd' : posOf S.ns s = some d := by rw [h.pos_eq]; exact hd
      have h1 := order_some w pb S t s c d h.lies ht hs hc' hd'
      have e1 := posOf_le hc'
      have e2 := posOf_le hd'
      rw [h.len] at e1 e2
      rw [h.sgn_eq e1 e2] at h1
      exact h1

theorem Has.lenC {w : World} {pb : Nat} {S : St} {T : List Nat} {g : Nat} (h : Has w pb S T g) : Calls Try.prog 17 #[.pointer (some ⟨pb, 0, none⟩)] w fun e w' => e = .returned (.int .i64 (T.length : Int)) ∧ w' = w := by
  have := len_any w pb S h.lies
  rw [h.len] at this
  exact this
theorem Has.givenC {w : World} {pb : Nat} {S : St} {T : List Nat} {g : Nat} (h : Has w pb S T g) : Calls Try.prog 18 #[.pointer (some ⟨pb, 0, none⟩)] w fun e w' => e = .returned (.int .u64 (g : Int)) ∧ w' = w := by
  have := given_any w pb S h.lies
  rw [h.given] at this
  exact this
theorem Has.writesC {w : World} {pb : Nat} {S : St} {T : List Nat} {g : Nat} (h : Has w pb S T g) : Calls Try.prog 12 #[.pointer (some ⟨pb, 0, none⟩)] w fun e w' => e = .returned (.int .u64 (S.writes : Int)) ∧ w' = w := writes_any w pb S h.lies

end Go.Proofs.Ytkppcnednfjbhaa
