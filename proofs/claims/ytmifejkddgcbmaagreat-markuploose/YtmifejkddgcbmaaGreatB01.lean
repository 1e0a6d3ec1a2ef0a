/- There and back, in plain words: what is escaped reads as it was, and holds nothing that markup would take for something else. -/
import Derived.Test.YtmifejkddgcbmaaGreatA12
import Derived.Test.YtmifejkddgcbmaaGreatA05
namespace Go.Proofs.YtmifejkddgcbmaaGreat
set_option linter.unusedVariables false
set_option linter.unusedSimpArgs false

theorem escB_nil {c : Nat} {q : Bool} (h : c ≠ 38 ∧ c ≠ 60 ∧ c ≠ 62 ∧ c ≠ 13 ∧ (q = true → c ≠ 34 ∧ c ≠ 9 ∧ c ≠ 10)) : escB c q = [] := by
  obtain ⟨h1, h2, h3, h4, h5⟩ := h
  unfold escB
  rw [if_neg h1, if_neg h2, if_neg h3, if_neg h4, if_neg (fun h => (h5 h.1).1 h.2), if_neg (fun h => (h5 h.1).2.1 h.2), if_neg (fun h => (h5 h.1).2.2 h.2)]
theorem escB_is (c : Nat) (q : Bool) : (escB c q = [] ∧ c ≠ 38 ∧ c ≠ 60 ∧ c ≠ 62 ∧ c ≠ 13 ∧ (q = true → c ≠ 34 ∧ c ≠ 9 ∧ c ≠ 10)) ∨ (c = 38 ∧ escB c q = [38, 97, 109, 112, 59]) ∨ (c = 60 ∧ escB c q = [38, 108, 116, 59]) ∨ (c = 62 ∧ escB c q = [38, 103, 116, 59]) ∨
    (c = 13 ∧ escB c q = [38, 35, 49, 51, 59]) ∨ (q = true ∧ c = 34 ∧ escB c q = [38, 113, 117, 111, 116, 59]) ∨ (q = true ∧ c = 9 ∧ escB c q = [38, 35, 57, 59]) ∨ (q = true ∧ c = 10 ∧ escB c q = [38, 35, 49, 48, 59]) := by
  by_cases h1 : c = 38
  · subst h1; right; left; exact ⟨rfl, by simp [escB]⟩
  by_cases h2 : c = 60
  · subst h2; right; right; left; exact ⟨rfl, by simp [escB]⟩
  by_cases h3 : c = 62
  · subst h3; right; right; right; left; exact ⟨rfl, by simp [escB]⟩
  by_cases h4 : c = 13
  · subst h4; right; right; right; right; left; exact ⟨rfl, by simp [escB]⟩
  by_cases h5 : q = true ∧ c = 34
  · obtain ⟨rfl, rfl⟩ := h5; right; right; right; right; right; left; exact ⟨rfl, rfl, by simp [escB]⟩
  by_cases h6 : q = true ∧ c = 9
  · obtain ⟨rfl, rfl⟩ := h6; right; right; right; right; right; right; left; exact ⟨rfl, rfl, by simp [escB]⟩
  by_cases h7 : q = true ∧ c = 10
  · obtain ⟨rfl, rfl⟩ := h7; right; right; right; right; right; right; right; exact ⟨rfl, rfl, by simp [escB]⟩
  have h8 : c ≠ 38 ∧ c ≠ 60 ∧ c ≠ 62 ∧ c ≠ 13 ∧ (q = true → c ≠ 34 ∧ c ≠ 9 ∧ c ≠ 10) := ⟨h1, h2, h3, h4, fun hq => ⟨fun h => h5 ⟨hq, h⟩, fun h => h6 ⟨hq, h⟩, fun h => h7 ⟨hq, h⟩⟩⟩
  exact Or.inl ⟨escB_nil h8, h8⟩

theorem enc_low {r : Nat} (h : r < 128) : enc r = [r.toUInt8] := by simp [enc, h]
theorem enc_high {r : Nat} (h : 128 ≤ r) (hr : r ≤ 1114111) : ∀ b ∈ enc r, 128 ≤ b.toNat := by
  intro b hb
  unfold enc at hb
  rw [if_neg (by omega)] at hb
  split at hb
  · simp only [List.mem_cons, List.not_mem_nil, or_false] at hb
    rcases hb with rfl | rfl <;> rw [u8n (by omega)] <;> omega
  · split at hb
    · simp only [List.mem_cons, List.not_mem_nil, or_false] at hb
      rcases hb with rfl | rfl | rfl <;> rw [u8n (by omega)] <;> omega
    · simp only [List.mem_cons, List.not_mem_nil, or_false] at hb
      rcases hb with rfl | rfl | rfl | rfl <;> rw [u8n (by omega)] <;> omega

theorem esc1_high {q : Bool} {b : UInt8} (h : 128 ≤ b.toNat) : esc1 q b = [b] := by
  rw [esc1, if_pos (escB_nil (by omega))]

theorem flatMap_id {f : UInt8 → List UInt8} : ∀ l : List UInt8, (∀ b ∈ l, f b = [b]) → l.flatMap f = l := by
  intro l
  induction l with
  | nil => intro _; rfl
  | cons b t ih =>
    intro h
    rw [List.flatMap_cons, h b (by simp), ih (fun x hx => h x (by simp [hx]))]
    rfl

/-- A character as Escape writes it. -/
def piece (q : Bool) (r : Nat) : List UInt8 := if escB r q = [] then enc r else escB r q

theorem escL_enc (q : Bool) {r : Nat} (h : Ch r) : escL q (enc r) = piece q r := by
  have hr : r ≤ 1114111 := by unfold Ch at h; omega
  rcases Nat.lt_or_ge r 128 with h1 | h1
  · rw [enc_low h1, escL, List.flatMap_cons, List.flatMap_nil, List.append_nil, esc1, u8n (by omega), piece, enc_low h1]
  · rw [piece, if_pos (escB_nil (by omega))]
    exact flatMap_id _ (fun b hb => esc1_high (enc_high h1 hr b hb))
theorem escL_append (q : Bool) (a b : List UInt8) : escL q (a ++ b) = escL q a ++ escL q b := by simp [escL]
theorem escL_bytes (q : Bool) : ∀ rs : List Nat, (∀ r ∈ rs, Ch r) → escL q (bytes rs) = rs.flatMap (piece q) := by
  intro rs
  induction rs with
  | nil => intro _; rfl
  | cons r rs ih =>
    intro h
    rw [bytes_cons, escL_append, escL_enc q (h r (by simp)), ih (fun x hx => h x (by simp [hx])), List.flatMap_cons]

theorem enc_ne {r : Nat} : enc r ≠ [] := by
  intro h
  have := enc_pos r
  rw [h] at this
  simp at this

theorem next_piece (q : Bool) {r : Nat} (h : Ch r) (t : List UInt8) : nextP (piece q r ++ t) = ((r : Int), ((piece q r).length : Int), 0) := by
  have hr : r ≤ 1114111 := by unfold Ch at h; omega
  rcases escB_is r q with ⟨he, hn⟩ | ⟨rfl, he⟩ | ⟨rfl, he⟩ | ⟨rfl, he⟩ | ⟨rfl, he⟩ | ⟨hq, rfl, he⟩ | ⟨hq, rfl, he⟩ | ⟨hq, rfl, he⟩
  · rw [piece, if_pos he]
    have hf := fans_of (first_enc h t)
    obtain ⟨b, u, hbu⟩ : ∃ b u, enc r = b :: u := by
      cases hx : enc r with
      | nil => exact absurd hx enc_ne
      | cons b u => exact ⟨b, u, rfl⟩
    have hb : b.toNat ≠ 38 := by
      rcases Nat.lt_or_ge r 128 with h1 | h1
      · rw [enc_low h1] at hbu
        have : b = r.toUInt8 := ((List.cons.inj hbu).1).symm
        rw [this, u8n (by omega)]
        omega
      · have := enc_high h1 hr b (by rw [hbu]; simp)
        omega
    rw [hbu] at hf ⊢
    rw [List.cons_append] at hf ⊢
    rw [← hf, nextP, if_neg hb]
  all_goals rw [piece, he, if_neg (by simp)]
  all_goals simp [nextP, refP, chkC, namedF, nms, List.isPrefixOf, num, dig, charB]

theorem piece_pos (q : Bool) (r : Nat) : 1 ≤ (piece q r).length := by
  unfold piece
  split
  · exact enc_pos r
  · rename_i h
    cases hx : escB r q with
    | nil => exact absurd hx h
    | cons b u => simp

theorem un_pieces (q : Bool) : ∀ (rs : List Nat) (acc : List UInt8) (pos k : Nat), (∀ r ∈ rs, Ch r) → acc.length + (bytes rs).length ≤ 16384 → (rs.flatMap (piece q)).length ≤ k →
    unF k (rs.flatMap (piece q)) acc pos = (acc ++ bytes rs, 0, 0) := by
  intro rs
  induction rs with
  | nil =>
    intro acc pos k _ _ _
    rw [List.flatMap_nil, unF_end, bytes_nil, List.append_nil]
  | cons r rs ih =>
    intro acc pos k hc hlen hk
    have hp := piece_pos q r
    rw [List.flatMap_cons, List.length_append] at hk
    obtain ⟨k', rfl⟩ : ∃ k', k = k' + 1 := ⟨k - 1, by omega⟩
    rw [bytes_cons, List.length_append, enc_length] at hlen
    rw [List.flatMap_cons, unF_step (by intro h; have h1 := congrArg List.length h; rw [List.length_append, List.length_nil] at h1; omega) (next_piece q (hc r (by simp)) _), if_neg (by omega), List.drop_left]
    rw [ih (acc ++ enc r) _ k' (fun x hx => hc x (by simp [hx])) (by rw [List.length_append, enc_length]; omega) (by omega), bytes_cons, List.append_assoc]

/-- THERE AND BACK. -/
theorem back_eq (q : Bool) {l : List UInt8} (h : (tans l).2 = 0) : uans (escL q l) = (l, 0, 0) := by
  obtain ⟨h1, h2, h3⟩ := tans_ok h
  have h4 : escL q l = (scan l).1.flatMap (piece q) := by
    rw [← escL_bytes q _ h3, ← h2]
  rw [uans, h4, un_pieces q _ [] 0 _ h3 (by rw [← h2]; simpa using h1) (Nat.le_refl _), List.nil_append, ← h2]

/-- What is escaped holds none of these. -/
theorem esc_none (q : Bool) (l : List UInt8) : ∀ b ∈ escL q l, b.toNat ≠ 60 ∧ b.toNat ≠ 62 ∧ b.toNat ≠ 13 ∧ (q = true → b.toNat ≠ 34 ∧ b.toNat ≠ 9 ∧ b.toNat ≠ 10) := by
  intro b hb
  rw [escL, List.mem_flatMap] at hb
  obtain ⟨c, _, hb⟩ := hb
  rcases escB_is c.toNat q with ⟨he, hn⟩ | ⟨_, he⟩ | ⟨_, he⟩ | ⟨_, he⟩ | ⟨_, he⟩ | ⟨hq, _, he⟩ | ⟨hq, _, he⟩ | ⟨hq, _, he⟩
  · rw [esc1, if_pos he, List.mem_singleton] at hb
    subst hb
    exact ⟨hn.2.1, hn.2.2.1, hn.2.2.2.1, hn.2.2.2.2⟩
  all_goals rw [esc1, he, if_neg (by simp)] at hb
  all_goals simp only [List.mem_cons, List.not_mem_nil, or_false] at hb
  · rcases hb with rfl | rfl | rfl | rfl | rfl <;> exact ⟨by decide, by decide, by decide, fun _ => by decide⟩
  · rcases hb with rfl | rfl | rfl | rfl <;> exact ⟨by decide, by decide, by decide, fun _ => by decide⟩
  · rcases hb with rfl | rfl | rfl | rfl <;> exact ⟨by decide, by decide, by decide, fun _ => by decide⟩
  · rcases hb with rfl | rfl | rfl | rfl | rfl <;> exact ⟨by decide, by decide, by decide, fun _ => by decide⟩
  · rcases hb with rfl | rfl | rfl | rfl | rfl | rfl <;> exact ⟨by decide, by decide, by decide, fun _ => by decide⟩
  · rcases hb with rfl | rfl | rfl | rfl <;> exact ⟨by decide, by decide, by decide, fun _ => by decide⟩
  · rcases hb with rfl | rfl | rfl | rfl | rfl <;> exact ⟨by decide, by decide, by decide, fun _ => by decide⟩

end Go.Proofs.YtmifejkddgcbmaaGreat

/- A printer: its builder, and what its small calls leave. -/
namespace Go.Proofs.YtmifejkddgcbmaaGreat
open Go.RowKit
set_option linter.unusedVariables false
set_option linter.unusedSimpArgs false

/-- A string's bytes appended to a row of one's own: where the new one lies. -/
theorem run_app_str {P : Program} (w : World) (base : Nat) (t u ty e : TypeId) (i : TypeInfo) (ht : P.underlying t = some (.slice e)) (hu : P.underlying u = some .string) (hi : P.info? e = some i) (hz : i.zero = some (.int .u8 0)) (hsize : i.size = 1) (hby : i.bytes = 1)
    (v : Value) (n : Nat) (xs : List Value) (hown : w.ownsRow base e 1 v n xs) (s : ByteArray) (h63 : n + s.size ≤ maxLen) (hbytes : n + s.size ≤ 140737488355328) (hbase : base ≤ w.heap.size) :
    ∃ v' w', (Builtin.append_ #[t, u] ty #[v, .string s]).run P w = .ok v' w' ∧ w'.ownsRow base e 1 v' (n + s.size) (xs ++ Lib.strCells s) ∧ w.grownBy w' v.ownBlock ∧
      (v' = .slice none 0 0 ↔ v = .slice none 0 0 ∧ s.size = 0) ∧ (v'.ownBlock = v.ownBlock ∨ v'.ownBlock = some w.heap.size) := by
  obtain ⟨v', w', hr, h2, h3, h4⟩ := Lib.run_append_own_string (P := P) w base t u ty e i ht hu hi hz hsize hby v n xs hown s h63 hbytes hbase
  refine ⟨v', w', hr, h2, h3, h4, ?_⟩
  have hsmall : n + s.size ≤ 9223372036854775807 := by simp only [maxLen] at h63; omega
  rcases hown.2 with ⟨rfl, rfl⟩ | ⟨g, cap, cur, rfl, hbg, hg, hnc, hcm, hcs, htake⟩
  · by_cases hm : s.size = 0
    · left
      rw [h4.2 ⟨rfl, hm⟩]
    · right
      have hq := run_append_nil_string (P := P) w t u ty e i (.int .u8 0) ht hu hi hz s (by omega) (by omega) (by rw [hby]; omega)
      rw [hr] at hq
      cases hq
      rfl
  · by_cases hroom : n + s.size ≤ cap
    · left
      have hcs' : cur.size = cap := by simpa using hcs
      have hq := Lib.run_append_room_string (P := P) w t u ty e i ht hu hi hsize g n cap cur hg s hroom (by omega)
      rw [hr] at hq
      cases hq
      rfl
    · right
      have holds : ∀ j u, xs[j]? = some u → w.cell? ((⟨g, 0, none⟩ : Addr).add j) = some u := hown.cells (g := g) rfl
      have hq := Lib.run_append_grow_string (P := P) w t u ty e i (.int .u8 0) ht hu hi hz ⟨g, 0, none⟩ n cap xs (by rw [hsize]; simpa using hown.1) holds s (by omega) (by omega) (by rw [hby]; exact growslice_fits (by omega) (by omega))
      rw [hr] at hq
      cases hq
      rfl

theorem wpList_app_str {P : Program} {w : World} {ops : Array Oper} {rest : List Oper} {o : Oper} {a : Act} {Q : Exit → Act → World → Prop} (hgd : o.guard = none) (sl x : Operand) (t u : TypeId)
    (ho : o.op = .call { callee := .builtin .append, args := #[sl, x], argTypes := #[t, u] })
    (base : Nat) (e : TypeId) (i : TypeInfo) (ht : P.underlying t = some (.slice e)) (hu : P.underlying u = some .string) (hi : P.info? e = some i) (hz : i.zero = some (.int .u8 0)) (hsize : i.size = 1) (hby : i.bytes = 1)
    (v : Value) (n : Nat) (xs : List Value) (hs : a.eval sl = v) (hown : w.ownsRow base e 1 v n xs) (s : ByteArray) (hx : a.eval x = .string s)
    (h63 : n + s.size ≤ maxLen) (hbytes : n + s.size ≤ 140737488355328) (hbase : base ≤ w.heap.size)
    (h : ∀ v' w', w'.ownsRow base e 1 v' (n + s.size) (xs ++ Lib.strCells s) → w.grownBy w' v.ownBlock → (v' = .slice none 0 0 ↔ v = .slice none 0 0 ∧ s.size = 0) → (v'.ownBlock = v.ownBlock ∨ v'.ownBlock = some w.heap.size) → wpList P ops Q rest (a.put o.dst v') w') : wpList P ops Q (o :: rest) a w := by
  refine wpList_plain hgd fun K hK => ?_
  obtain ⟨v', w', hr, h2, h3, h4, h5⟩ := run_app_str (P := P) w base t u o.type e i ht hu hi hz hsize hby v n xs hown s h63 hbytes hbase
  unfold Oper.wp execOp
  simp only [ho, resolve, invoke, builtin, Sem.run_bind, Sem.run_pure, Result.andThen_ok, List.map_toArray, List.map_cons, List.map_nil, hs, hx, hr]
  exact hK _ _ (h v' w' h2 h3 h4 h5)

/-- A printer at block pb that holds the bytes l, its row v from block B on. -/
structure Prn (w : World) (B pb : Nat) (v : Value) (l : List UInt8) : Prop where
  blk : ∃ p, (p = .pointer none ∨ p = .pointer (some ⟨pb, 0, none⟩)) ∧ w.heap[pb]? = some (.cells #[p, v] 61 (0, 0))
  own : w.ownsRow B 5 1 v l.length (Lib.byteCells l)
  ne : v.ownBlock ≠ some pb
  nl : l = [] → v = .slice none 0 0
  lo : B ≤ pb

theorem Prn.lt {w : World} {B pb : Nat} {v : Value} {l : List UInt8} (h : Prn w B pb v l) : pb < w.heap.size := by
  obtain ⟨p, _, hh⟩ := h.blk
  exact (Array.getElem?_eq_some_iff.1 hh).1
theorem Prn.row {w : World} {B pb : Nat} {v : Value} {l : List UInt8} (h : Prn w B pb v l) : ∀ k, v.ownBlock = some k → B ≤ k ∧ k < w.heap.size := fun k hk => h.own.lt k hk
/-- Other blocks play no part. -/
theorem Prn.to {w w' : World} {B pb : Nat} {v : Value} {l : List UInt8} (h : Prn w B pb v l) (hp : w'.heap[pb]? = w.heap[pb]?) (hv : ∀ k, v.ownBlock = some k → w'.heap[k]? = w.heap[k]?) : Prn w' B pb v l := by
  obtain ⟨p, h1, h2⟩ := h.blk
  refine ⟨⟨p, h1, hp.trans h2⟩, ⟨h.own.1, ?_⟩, h.ne, h.nl, h.lo⟩
  rcases h.own.2 with hn | ⟨g, cap, cur, rfl, hb', hh, r⟩
  · exact .inl hn
  · exact .inr ⟨g, cap, cur, rfl, hb', (hv g rfl).trans hh, r⟩
theorem Prn.alloc {w : World} {B pb : Nat} {v : Value} {l : List UInt8} (h : Prn w B pb v l) (o : Obj) : Prn (w.alloc o) B pb v l :=
  h.to (Below.heap_alloc _ _ _ h.lt) (fun k hk => Below.heap_alloc _ _ _ (h.row k hk).2)
theorem Prn.below {w w' : World} {B pb : Nat} {v : Value} {l : List UInt8} (h : Prn w B pb v l) (hb : Below w.heap.size w w') : Prn w' B pb v l :=
  h.to (hb.block _ h.lt) (fun k hk => hb.block _ (h.row k hk).2)
theorem Prn.set {w : World} {B pb : Nat} {v : Value} {l : List UInt8} (h : Prn w B pb v l) {a : Addr} (h1 : a.block ≠ pb) (h2 : v.ownBlock ≠ some a.block) (u : Value) : Prn (w.setCell a u) B pb v l :=
  h.to (Below.heap_setCell _ _ _ _ (Ne.symm h1)) (fun k hk => Below.heap_setCell _ _ _ _ (fun e => h2 (by rw [hk, e])))

/-- The blocks that a printer writes into. -/
def PB (pb : Nat) (v : Value) (k : Nat) : Prop := k = pb ∨ v.ownBlock = some k
/-- What a call leaves: the bytes, and all other blocks. -/
def PrP (w : World) (B pb : Nat) (v : Value) (l : List UInt8) (w' : World) : Prop :=
  ∃ v', Prn w' B pb v' l ∧ Turn (PB pb v) w w' ∧ ∀ k, v'.ownBlock = some k → v.ownBlock = some k ∨ w.heap.size ≤ k
theorem PrP.refl {w : World} {B pb : Nat} {v : Value} {l : List UInt8} (h : Prn w B pb v l) : PrP w B pb v l w := ⟨v, h, Turn.refl _ _, fun k hk => .inl hk⟩
/-- One behind the other. -/
theorem PrP.next {w w1 w2 : World} {B pb : Nat} {v v1 : Value} {l2 : List UInt8} (ht : Turn (PB pb v) w w1) (hv : ∀ k, v1.ownBlock = some k → v.ownBlock = some k ∨ w.heap.size ≤ k) (h2 : PrP w1 B pb v1 l2 w2) : PrP w B pb v l2 w2 := by
  obtain ⟨v2, p2, t2, q2⟩ := h2
  refine ⟨v2, p2, ⟨t2.os.trans ht.os, t2.tape.trans ht.tape, t2.output.trans ht.output, Nat.le_trans ht.size t2.size, fun k hk hn => ?_⟩, fun k hk => ?_⟩
  · refine (t2.block k (Nat.lt_of_lt_of_le hk ht.size) (fun hb => ?_)).trans (ht.block k hk hn)
    rcases hb with rfl | hb
    · exact hn (.inl rfl)
    · rcases hv k hb with hb | hb
      · exact hn (.inr hb)
      · omega
  · rcases q2 k hk with h | h
    · exact hv k h
    · have := ht.size
      exact .inr (by omega)
theorem PrP.alloc {w w1 : World} {B pb : Nat} {v : Value} {l : List UInt8} (h : PrP w B pb v l w1) (o : Obj) : PrP w B pb v l (w1.alloc o) := by
  obtain ⟨v1, p1, t1, q1⟩ := h
  exact ⟨v1, p1.alloc o, t1.alloc o, q1⟩

set_option maxRecDepth 100000 in
set_option maxHeartbeats 1000000 in
theorem pcheck_fresh (b : Nat) (w : World) (h0 : w.cell? ⟨b, 0, none⟩ = some (.pointer none)) (hsh : w.shape? b = some (61, 2)) (hfz : w.frozen? ⟨b, 0, none⟩ = false) :
    Calls Tryz.prog 68 #[.pointer (some ⟨b, 0, none⟩)] w fun e w' => e = .returned (.tuple #[]) ∧ w' = w.setCell ⟨b, 0, none⟩ (.pointer (some ⟨b, 0, none⟩)) := by
  obtain ⟨j, hj, hjs⟩ := Option.map_eq_some_iff.1 (show (Tryz.prog.info? 59).map (·.size) = some 2 by kernel_rfl)
  go_enter Tryz.func68, Tryz.ntmps68
  go_wp2
  rw [Lib.run_to_unsafe w ⟨b, 0, none⟩ Tryz.underlying57 Tryz.underlying122 hj (by rw [hjs]; decide) hsh (Nat.zero_lt_succ 1)]
  simp only [Result.andThen]
  rw [Oper.upon_value]
  go_wp2
  rw [run_callFunc_extern Tryz.func95 (by kernel_rfl) (by kernel_rfl) (by kernel_rfl) (e := Extern.AbiNoEscape.same) (by kernel_rfl)]
  rw [Lib.run_noEscape]
  simp only [Result.andThen]
  rw [Oper.upon_value]
  go_wp2
  rw [Lib.run_from_unsafe w ⟨b, 0, none⟩ Tryz.underlying122 Tryz.underlying57 hj hsh (by kernel_rfl)]
  simp only [Result.andThen]
  rw [Oper.upon_value]
  go_wp2
  go_end0
  exact ⟨rfl, rfl⟩

theorem Prn.check {w : World} {B pb : Nat} {v : Value} {l : List UInt8} (h : Prn w B pb v l) : Calls Tryz.prog 68 #[.pointer (some ⟨pb, 0, none⟩)] w fun e w' => e = .returned (.tuple #[]) ∧ w'.heap[pb]? = some (.cells #[.pointer (some ⟨pb, 0, none⟩), v] 61 (0, 0)) ∧ Prn w' B pb v l ∧ Turn (PB pb v) w w' := by
  obtain ⟨p, hp, hh⟩ := h.blk
  obtain ⟨c0, c1, hsh, f0, f1⟩ := cell_at hh
  rcases hp with rfl | rfl
  · refine (pcheck_fresh pb w c0 hsh f0).mono ?_
    rintro e w' ⟨rfl, rfl⟩
    have hb : (w.setCell ⟨pb, 0, none⟩ (.pointer (some ⟨pb, 0, none⟩))).heap[pb]? = some (.cells #[.pointer (some ⟨pb, 0, none⟩), v] 61 (0, 0)) := by simp [World.setCell, Array.getElem?_modify, hh]
    refine ⟨rfl, hb, ⟨⟨_, .inr rfl, hb⟩, h.own.kept (grown_setCell w pb 0 _) (Or.inr h.ne), h.ne, h.nl, h.lo⟩, (Turn.refl _ _).setCell (p := ⟨pb, 0, none⟩) (.inl rfl) _⟩
  · refine (check_used pb w c0).mono ?_
    rintro e w' ⟨rfl, rfl⟩
    exact ⟨rfl, hh, h, Turn.refl _ _⟩

set_option maxRecDepth 100000 in
set_option maxHeartbeats 1000000 in
theorem pwrite_any {w : World} {B pb : Nat} {v : Value} {l : List UInt8} (h : Prn w B pb v l) (s : ByteArray) (hl : l.length ≤ 1000000) (hs : s.size ≤ 1000000) :
    Calls Tryz.prog 47 #[.pointer (some ⟨pb, 0, none⟩), .string s] w fun e w' => e = .returned (.tuple #[.int .i64 s.size, .nilIface]) ∧ PrP w B pb v (l ++ s.data.toList) w' := by
  have hck := h.check
  have HLO := h.lo
  clear h
  obtain ⟨i0, hi, hz0, hz1, hz2⟩ := info_parts info5
  go_enter Tryz.func47, Tryz.ntmps47
  go_wp2_with fail
  refine hck.mono ?_
  rintro e w1 ⟨rfl, hh, hp1, ht1⟩
  obtain ⟨c0, c1, hsh, f0, f1⟩ := cell_at hh
  have HP1 : Hid (Prn w1 B pb v l) := hp1
  have HT1 : Hid (Turn (PB pb v) w w1) := ht1
  have HH : Hid (w1.heap[pb]? = some (.cells #[.pointer (some ⟨pb, 0, none⟩), v] 61 (0, 0))) := hh
  have hlt := hp1.lt
  clear hh hck f0 hsh hp1 ht1
  go_wp2_with (at_builtin; refine wpList_app_str rfl _ _ 41 9 rfl B 5 i0 Tryz.underlying41 Tryz.underlying9 hi hz0 hz1 hz2 _ _ _ rfl HP1.out.own s rfl ?c3 ?c4 ?c5 ?_)
  case c3 => unfold maxLen; omega
  case c4 => omega
  case c5 => omega
  intro v' w2 hown' hgrow hnil hat
  have hh2 : w2.heap[pb]? = some (.cells #[.pointer (some ⟨pb, 0, none⟩), v] 61 (0, 0)) := by
    rw [hgrow.block pb hlt (fun e => HP1.out.ne e.symm)]
    exact HH.out
  obtain ⟨d0, d1, dsh, g0, g1⟩ := cell_at hh2
  have HT2 : Hid (Turn (PB pb v) w w2) := HT1.out.trans ⟨hgrow.os, hgrow.tape, hgrow.output, hgrow.size, fun k hk hn => hgrow.block k hk (fun e => hn (.inr e.symm))⟩
  have HO2 : Hid (w2.ownsRow B 5 1 v' (l.length + s.size) (Lib.byteCells l ++ Lib.strCells s)) := hown'
  have HH2 : Hid (w2.heap[pb]? = some (.cells #[.pointer (some ⟨pb, 0, none⟩), v] 61 (0, 0))) := hh2
  have HNL : Hid (l ++ s.data.toList = [] → v' = .slice none 0 0) := fun e => by
    rw [List.append_eq_nil_iff] at e
    exact hnil.2 ⟨HP1.out.nl e.1, ByteArray.ext (Array.toList_eq_nil_iff.1 e.2)⟩
  have HAT : Hid (∀ k, v'.ownBlock = some k → k ≠ pb ∧ (v.ownBlock = some k ∨ w.heap.size ≤ k)) := fun k hk => by
    have hs1 := HT1.out.size
    rcases hat with h | h
    · rw [h] at hk
      exact ⟨fun e => HP1.out.ne (by rw [hk, e]), .inl hk⟩
    · rw [h] at hk
      cases hk
      exact ⟨by omega, .inr hs1⟩
  obtain ⟨sa, scap, rfl⟩ := owns_slice hown'
  clear hown' hgrow hh2 HH HT1 HP1 hnil hat
  go_wp2
  go_ret2
  have hb3 : (w2.setCell ⟨pb, 1, none⟩ (.slice sa (l.length + s.size) scap)).heap[pb]? = some (.cells #[.pointer (some ⟨pb, 0, none⟩), .slice sa (l.length + s.size) scap] 61 (0, 0)) := by simp [World.setCell, Array.getElem?_modify, HH2.out]
  have hne : (Value.slice sa (l.length + s.size) scap).ownBlock ≠ some pb := fun e => (HAT.out pb e).1 rfl
  refine ⟨rfl, _, ⟨⟨_, .inr rfl, hb3⟩, ?_, hne, HNL.out, HLO⟩, HT2.out.setCell (p := ⟨pb, 1, none⟩) (.inl rfl) _, fun k hk => (HAT.out k hk).2⟩
  have h1 : Lib.byteCells (l ++ s.data.toList) = Lib.byteCells l ++ Lib.strCells s := by rw [Lib.byteCells_append, Lib.strCells_eq]
  rw [h1, show (l ++ s.data.toList).length = l.length + s.size by rw [List.length_append, size_list]]
  exact HO2.out.kept (grown_setCell w2 pb 1 _) (Or.inr hne)

set_option maxRecDepth 100000 in
set_option maxHeartbeats 1000000 in
theorem plen_any {w : World} {B pb : Nat} {v : Value} {l : List UInt8} (h : Prn w B pb v l) : Calls Tryz.prog 27 #[.pointer (some ⟨pb, 0, none⟩)] w fun e w' => e = .returned (.int .i64 (l.length : Int)) ∧ w' = w := by
  obtain ⟨p, hp, hh⟩ := h.blk
  obtain ⟨c0, c1, hsh, f0, f1⟩ := cell_at hh
  obtain ⟨sa, scap, rfl⟩ := owns_slice h.own
  clear h hh c0 hp hsh f0 f1
  go_enter Tryz.func27, Tryz.ntmps27
  go_wp2
  go_ret
  exact ⟨rfl, rfl⟩

set_option maxRecDepth 100000 in
set_option maxHeartbeats 1000000 in
theorem full_any {w : World} {B pb : Nat} {v : Value} {l : List UInt8} (h : Prn w B pb v l) : Calls Tryz.prog 38 #[.pointer (some ⟨pb, 0, none⟩)] w fun e w' => e = .returned (.bool (decide (262144 < l.length))) ∧ w' = w := by
  have hl := plen_any h
  clear h
  by_cases h1 : 262144 < l.length
  · have t1 : (262144 : Int) < (l.length : Int) := by omega
    have HD : Hid (decide (262144 < l.length) = true) := decide_eq_true h1
    clear h1
    go_enter Tryz.func38, Tryz.ntmps38
    go_wp2_with fail
    refine hl.mono ?_
    rintro e w1 ⟨rfl, hw⟩
    obtain rfl := hw.symm
    go_wp2
    go_ret
    exact ⟨by rw [HD.out]; rfl, rfl⟩
  · have t1 : ¬ (262144 : Int) < (l.length : Int) := by omega
    have HD : Hid (decide (262144 < l.length) = false) := decide_eq_false h1
    have HT : Hid (decide ((262144 : Int) < (l.length : Int)) = false) := decide_eq_false t1
    clear h1
    go_enter Tryz.func38, Tryz.ntmps38
    go_wp2_with fail
    refine hl.mono ?_
    rintro e w1 ⟨rfl, hw⟩
    obtain rfl := hw.symm
    go_wp2
    go_ret
    exact ⟨by show Ending.returned (Value.bool (decide ((262144 : Int) < (l.length : Int)))) = _; rw [HD.out, HT.out], rfl⟩

/-- Strings one behind the other. -/
def catS (ss : List ByteArray) : List UInt8 := ss.flatMap fun s => s.data.toList
theorem catS_take {ss : List ByteArray} {i : Nat} {s : ByteArray} (h : ss[i]? = some s) : catS (ss.take (i + 1)) = catS (ss.take i) ++ s.data.toList := by
  rw [List.take_add_one, h]
  simp [catS]

set_option maxRecDepth 100000 in
set_option maxHeartbeats 1000000 in
theorem put_any' {w : World} {B pb : Nat} {v : Value} {l : List UInt8} (h : Prn w B pb v l) (x : Nat) (ss : List ByteArray) (cap : Nat) (hx : x < w.heap.size) (hxp : ¬ PB pb v x) (hc : ∀ i s, ss[i]? = some s → w.cell? ⟨x, i, none⟩ = some (.string s)) (hl : l.length + (catS ss).length ≤ 900000) (hss : ∀ s ∈ ss, s.size ≤ 200000) (hsl : ss.length ≤ 10) :
    Calls Tryz.prog 62 #[.pointer (some ⟨pb, 0, none⟩), .slice (some ⟨x, 0, none⟩) ss.length cap] w fun e w' => e = .returned (.tuple #[]) ∧ PrP w B pb v (l ++ catS ss) w' := by
  have HP : Hid (PrP w B pb v (l ++ catS (ss.take 0)) w) := by
    show PrP _ _ _ _ _ _
    simpa [catS] using PrP.refl h
  have HC : Hid (∀ i s, ss[i]? = some s → w.cell? ⟨x, i, none⟩ = some (.string s)) := hc
  have HX : Hid (¬ PB pb v x) := hxp
  have HLS : Hid (∀ i, (catS (ss.take i)).length ≤ (catS ss).length) := fun i => by
    have : catS ss = catS (ss.take i) ++ catS (ss.drop i) := by unfold catS; rw [← List.flatMap_append, List.take_append_drop]
    rw [this, List.length_append]; omega
  have HSS : Hid (∀ s ∈ ss, s.size ≤ 200000) := hss
  clear h hc hxp hss
  go_enter Tryz.func62, Tryz.ntmps62
  go_wp2
  go_loopw [8] (fun v8 wr => ∃ i : Nat, i ≤ ss.length ∧ v8 = .int .i64 (i : Int) ∧ Hid (PrP w B pb v (l ++ catS (ss.take i)) wr)) (fun v8 _ => ss.length - (intOf v8).toNat)
  case atStart => exact ⟨0, by omega, rfl, HP⟩
  case round =>
    obtain ⟨i, hi, rfl, hp⟩ := hrel
    by_cases hlt : i < ss.length
    · have t1 : (i : Int) < (ss.length : Int) := by omega
      have t0 : (0 : Int) ≤ (i : Int) := by omega
      obtain ⟨s, hs⟩ : ∃ s, ss[i]? = some s := ⟨_, List.getElem?_eq_getElem hlt⟩
      obtain ⟨v1, p1, ht1, q1⟩ := hp.out
      have hcell : wr.cell? ⟨x, i, none⟩ = some (.string s) := (World.cell?_of_block (a := ⟨x, i, none⟩) (ht1.block x hx HX.out)).trans (HC.out i s hs)
      have hw := pwrite_any p1 s (by rw [List.length_append]; have := HLS.out i; omega) (by have := HSS.out s (List.mem_of_getElem? hs); omega)
      have HQ : Hid (Turn (PB pb v) w wr ∧ ∀ k, v1.ownBlock = some k → v.ownBlock = some k ∨ w.heap.size ≤ k) := ⟨ht1, q1⟩
      have HS : Hid (ss[i]? = some s) := hs
      clear hs p1 ht1 q1 hp
      go_wp2_with fail
      refine hw.mono ?_
      rintro e w2 ⟨rfl, hp2⟩
      have HP2 : Hid (PrP w B pb v (l ++ catS (ss.take (i + 1))) w2) := by
        show PrP _ _ _ _ _ _
        rw [catS_take HS.out, ← List.append_assoc]
        exact PrP.next HQ.out.1 HQ.out.2 hp2
      clear hw hp2
      go_wp2
      refine ⟨⟨i + 1, by omega, by simp, HP2⟩, ?_⟩
      simp [intOf]; omega
    · have t1 : ¬ (i : Int) < (ss.length : Int) := by omega
      have hie : i = ss.length := by omega
      have HE : Hid (PrP w B pb v (l ++ catS ss) wr) := by
        show PrP _ _ _ _ _ _
        have := hp.out
        rwa [hie, List.take_length] at this
      clear hp hie
      go_wp2
      go_end0
      exact ⟨rfl, HE.out⟩

end Go.Proofs.YtmifejkddgcbmaaGreat
