/- An act done by the program and by the document: the answers are the same, and both lists stay the same order. -/
import Derived.Test.YtkppcnednfjbhaaMeant
import Derived.Test.YtkppcnednfjbhaaRefDrop
namespace Go.Proofs.Ytkppcnednfjbhaa
open Go.RowKit Go.Maps

/-- Both lists in memory, apart from each other, with the same tags in the same order. -/
structure Both (B : Nat) (w : World) (pb db : Nat) (S : St) (sl : Option (Nat × Nat)) (T : List Nat) (g : Nat) : Prop where
  p : Has w pb S T g
  d : RefAt w db sl T g
  apart : ∀ k, Own pb S k → ¬ ROwn db sl k
  pbase : ∀ k, Own pb S k → B ≤ k
  dbase : ∀ k, ROwn db sl k → B ≤ k

theorem Both.of_turn {B pb db g : Nat} {w w' : World} {S : St} {sl : Option (Nat × Nat)} {T : List Nat} (h : Both B w pb db S sl T g) (ht : Turn (fun _ => False) w w') : Both B w' pb db S sl T g :=
  ⟨h.p.of_turn ht (fun _ _ hf => hf), h.d.of_turn ht (fun _ _ hf => hf), h.apart, h.pbase, h.dbase⟩
theorem Both.alloc {B pb db g : Nat} {w : World} {S : St} {sl : Option (Nat × Nat)} {T : List Nat} (h : Both B w pb db S sl T g) (o : Obj) : Both B (w.alloc o) pb db S sl T g :=
  h.of_turn ((Turn.refl _ w).alloc o)
theorem Both.drewN {B pb db g : Nat} {w : World} {S : St} {sl : Option (Nat × Nat)} {T : List Nat} (h : Both B w pb db S sl T g) (n : Nat) : Both B (w.drewN n) pb db S sl T g :=
  h.of_turn ((Turn.refl _ w).drewN n)

/-- The program's list has turned; the document's next. -/
theorem Both.mid {B pb db g g' : Nat} {w w' : World} {S S' : St} {sl : Option (Nat × Nat)} {T T' : List Nat} (h : Both B w pb db S sl T g) (_hp : Has w' pb S' T' g') (ht : Turn (Own pb S) w w') (ho : ∀ k, Own pb S' k → Own pb S k ∨ w.heap.size ≤ k) :
    RefAt w' db sl T g ∧ (∀ k, Own pb S' k → ¬ ROwn db sl k) := by
  refine ⟨h.d.of_turn ht (fun k hk hk' => h.apart k hk' hk), fun k hk hk' => ?_⟩
  rcases ho k hk with h1 | h1
  · exact h.apart k h1 hk'
  · have := h.d.own_lt hk'
    omega

theorem Both.last {B pb db g g' : Nat} {w w' w'' : World} {S S' : St} {sl sl' : Option (Nat × Nat)} {T T' : List Nat} (h : Both B w pb db S sl T g) (hB : B ≤ w.heap.size) (hp : Has w' pb S' T' g') (ht : Turn (Own pb S) w w') (ho : ∀ k, Own pb S' k → Own pb S k ∨ w.heap.size ≤ k)
    (hd : RefAt w'' db sl' T' g') (ht' : Turn (fun b => b = db) w' w'') (ho' : ∀ k, ROwn db sl' k → ROwn db sl k ∨ w'.heap.size ≤ k) : Both B w'' pb db S' sl' T' g' ∧ Below B w w'' := by
  obtain ⟨h1, h2⟩ := h.mid hp ht ho
  have hs := ht.size
  refine ⟨⟨hp.of_turn ht' (fun k hk e => h2 k hk (.inl e)), hd, fun k hk hk' => ?_, fun k hk => ?_, fun k hk => ?_⟩, (ht.below hB h.pbase).trans (ht'.below (by omega) (fun k e => h.dbase k (.inl e)))⟩
  · rcases ho' k hk' with h3 | h3
    · exact h2 k hk h3
    · have := hp.lies.own_lt hk
      omega
  · rcases ho k hk with h3 | h3
    · exact h.pbase k h3
    · omega
  · rcases ho' k hk with h3 | h3
    · exact h.dbase k h3
    · omega

theorem meantN_lt {T : List Nat} {how : Int} {tag g : Nat} (ht : tag < 18446744073709551616) (hT : ∀ t ∈ T, t ≤ g) (hg : g < 18446744073709551616) : meantN T how tag < 18446744073709551616 := by
  have h : ∀ c, tg T c < 18446744073709551616 := by
    intro c
    rcases tg_mem (T := T) (c := c) with e | e
    · omega
    · have := hT _ e; omega
  unfold meantN
  split
  · exact ht
  · split
    · omega
    · split
      · exact h _
      · exact h _

/-- What an act leaves. -/
def Did (B : Nat) (w : World) (pb db : Nat) (S : St) (T : List Nat) (g : Nat) (kind : Int) (w' : World) : Prop :=
  Below B w w' ∧ ∃ S' sl' T' g', Both B w' pb db S' sl' T' g' ∧ g ≤ g' ∧ g' ≤ g + 1 ∧ (kind = 0 → T.length = g → T'.length = g') ∧ (kind ≠ 0 → g' = g ∧ S'.writes = S.writes ∧ ∀ n ∈ S'.ns, n ∈ S.ns)

theorem afterG_le (T : List Nat) (g t : Nat) : g ≤ afterG T g t ∧ afterG T g t ≤ g + 1 := by
  unfold afterG
  split
  · omega
  · split <;> omega

theorem afterT_len (T : List Nat) (g t : Nat) (h : T.length = g) : (afterT T g t).length = afterG T g t := by
  unfold afterT afterG
  split
  · exact h
  · split
    · exact h
    · rw [ins_length, h]

set_option maxRecDepth 100000 in
set_option maxHeartbeats 1000000 in
theorem does_any (B : Nat) (w : World) (pb db : Nat) (S : St) (sl : Option (Nat × Nat)) (T : List Nat) (g : Nat) (kind how : Int) (tag oth : Nat) (h : Both B w pb db S sl T g) (hB : B ≤ w.heap.size) (hg : g < 18014398509481984) (ht : tag < 18446744073709551616) (ho : oth < 18446744073709551616) :
    Calls Try.prog 7 #[.pointer (some ⟨pb, 0, none⟩), .pointer (some ⟨db, 0, none⟩), .agg #[.int .i64 kind, .int .i64 how, .int .u64 (tag : Int), .int .u64 (oth : Int)]] w fun e w' => e = .returned (.bool true) ∧ Did B w pb db S T g kind w' := by
  have hlen := h.p.tlen
  have hmeant := meant_any (w.alloc (.cells #[.int .i64 kind, .int .i64 how, .int .u64 (tag : Int), .int .u64 (oth : Int)] 38)) db sl T g kind how tag oth (h.alloc _).d hlen ht
  have hb2 := (h.alloc (.cells #[.int .i64 kind, .int .i64 how, .int .u64 (tag : Int), .int .u64 (oth : Int)] 38)).alloc (.cells #[.int .i64 kind, .int .i64 how, .int .u64 (tag : Int), .int .u64 (oth : Int)] 38)
  have hmlt := meantN_lt (T := T) (how := how) ht (fun t ht => (h.p.mem ht).2) (g := g) (by omega)
  generalize meantN T how tag = t at *
  have hB2 : B ≤ ((w.alloc (.cells #[.int .i64 kind, .int .i64 how, .int .u64 (tag : Int), .int .u64 (oth : Int)] 38)).alloc (.cells #[.int .i64 kind, .int .i64 how, .int .u64 (tag : Int), .int .u64 (oth : Int)] 38)).heap.size := by simp; omega
  have hbel : Below B w ((w.alloc (.cells #[.int .i64 kind, .int .i64 how, .int .u64 (tag : Int), .int .u64 (oth : Int)] 38)).alloc (.cells #[.int .i64 kind, .int .i64 how, .int .u64 (tag : Int), .int .u64 (oth : Int)] 38)) := ((Below.refl B w).alloc hB _).alloc (by simp; omega) _
  by_cases h0 : kind = 0
  · have hk : (kind == 0) = true := beq_iff_eq.2 h0
    have hafter := after_has _ pb S T g t hb2.p hmlt hg
    have HH : Hid (Both B ((w.alloc (.cells #[.int .i64 kind, .int .i64 how, .int .u64 (tag : Int), .int .u64 (oth : Int)] 38)).alloc (.cells #[.int .i64 kind, .int .i64 how, .int .u64 (tag : Int), .int .u64 (oth : Int)] 38)) pb db S sl T g) := hb2
    have HB : Hid (Below B w ((w.alloc (.cells #[.int .i64 kind, .int .i64 how, .int .u64 (tag : Int), .int .u64 (oth : Int)] 38)).alloc (.cells #[.int .i64 kind, .int .i64 how, .int .u64 (tag : Int), .int .u64 (oth : Int)] 38))) := hbel
    have HB2 := hB2
    have H0 : Hid (kind = 0) := h0
    clear h hb2 hbel h0 hB2
    have HB3 : Hid (B ≤ ((w.alloc (.cells #[.int .i64 kind, .int .i64 how, .int .u64 (tag : Int), .int .u64 (oth : Int)] 38)).alloc (.cells #[.int .i64 kind, .int .i64 how, .int .u64 (tag : Int), .int .u64 (oth : Int)] 38)).heap.size) := HB2
    clear HB2
    go_enter Try.func7, Try.ntmps7
    go_wp2_with fail
    refine hmeant.mono ?_
    rintro e w2 ⟨rfl, rfl⟩
    go_wp2_with fail
    refine hafter.mono ?_
    rintro e w3 ⟨rfl, S', hH, hT, hO⟩
    have hm := HH.out.mid hH hT hO
    have hrafter := rafter_any w3 db sl T g t hm.1 hlen (by omega)
    have H1 : Hid (Has w3 pb S' (afterT T g t) (afterG T g t)) := hH
    have H2 : Hid (Turn (Own pb S) _ w3) := hT
    have H3 : Hid (∀ k, Own pb S' k → Own pb S k ∨ _ ≤ k) := hO
    clear hH hT hO hm hafter hmeant
    go_wp2_with fail
    refine hrafter.mono ?_
    rintro e w4 ⟨rfl, sl', hR, hT', hO'⟩
    have hl := HH.out.last HB3.out H1.out H2.out H3.out hR hT' hO'
    have HD : Hid (Did B w pb db S T g kind w4) := ⟨HB.out.trans hl.2, S', sl', _, _, hl.1, (afterG_le T g t).1, (afterG_le T g t).2, fun _ => afterT_len T g t, fun hne => absurd H0.out hne⟩
    clear hR hT' hO' hl hrafter
    go_wp2
    go_ret
    exact ⟨rfl, HD.out⟩
  · have hk : (kind == 0) = false := beq_eq_false_iff_ne.2 h0
    by_cases h1 : kind = 1
    · have H5 : Hid (kind ≠ 0) := h0
      have hk1 : (kind == 1) = true := beq_iff_eq.2 h1
      have hdrop := drop_has _ pb S T g t hb2.p hmlt
      have HH : Hid (Both B ((w.alloc (.cells #[.int .i64 kind, .int .i64 how, .int .u64 (tag : Int), .int .u64 (oth : Int)] 38)).alloc (.cells #[.int .i64 kind, .int .i64 how, .int .u64 (tag : Int), .int .u64 (oth : Int)] 38)) pb db S sl T g) := hb2
      have HB : Hid (Below B w ((w.alloc (.cells #[.int .i64 kind, .int .i64 how, .int .u64 (tag : Int), .int .u64 (oth : Int)] 38)).alloc (.cells #[.int .i64 kind, .int .i64 how, .int .u64 (tag : Int), .int .u64 (oth : Int)] 38))) := hbel
      have HB3 : Hid (B ≤ ((w.alloc (.cells #[.int .i64 kind, .int .i64 how, .int .u64 (tag : Int), .int .u64 (oth : Int)] 38)).alloc (.cells #[.int .i64 kind, .int .i64 how, .int .u64 (tag : Int), .int .u64 (oth : Int)] 38)).heap.size) := hB2
      clear h hb2 hbel h0 hB2 h1
      go_enter Try.func7, Try.ntmps7
      go_wp2_with fail
      refine hmeant.mono ?_
      rintro e w2 ⟨rfl, rfl⟩
      go_wp2_with fail
      refine hdrop.mono ?_
      rintro e w3 ⟨rfl, S', hH, hT, hO, hW, hN⟩
      have hO2 : ∀ k, Own pb S' k → Own pb S k ∨ ((w.alloc (.cells #[.int .i64 kind, .int .i64 how, .int .u64 (tag : Int), .int .u64 (oth : Int)] 38)).alloc (.cells #[.int .i64 kind, .int .i64 how, .int .u64 (tag : Int), .int .u64 (oth : Int)] 38)).heap.size ≤ k := fun k hk => .inl (hO k hk)
      have hm := HH.out.mid hH hT hO2
      have hrdrop := rdrop_any w3 db sl T g t hm.1 hlen
      have H1 : Hid (Has w3 pb S' (dropT T t) g) := hH
      have H2 : Hid (Turn (Own pb S) _ w3) := hT
      have H3 : Hid (∀ k, Own pb S' k → Own pb S k ∨ _ ≤ k) := hO2
      have H4 : Hid (S'.writes = S.writes ∧ ∀ n ∈ S'.ns, n ∈ S.ns) := ⟨hW, hN⟩
      clear hH hT hO hm hdrop hmeant hO2 hW hN
      go_wp2_with fail
      refine hrdrop.mono ?_
      rintro e w4 ⟨rfl, sl', hR, hT', hO'⟩
      have hl := HH.out.last HB3.out H1.out H2.out H3.out hR hT' hO'
      have HD : Hid (Did B w pb db S T g kind w4) := ⟨HB.out.trans hl.2, S', sl', _, _, hl.1, Nat.le_refl _, Nat.le_succ _, fun e => absurd e H5.out, fun _ => ⟨rfl, H4.out⟩⟩
      clear hR hT' hO' hl hrdrop
      go_wp2
      go_ret
      exact ⟨rfl, HD.out⟩
    · have hk1 : (kind == 1) = false := beq_eq_false_iff_ne.2 h1
      have hnext := hb2.p.next (t := t) hmlt
      have hprev := hb2.p.prev (t := t) hmlt
      have horder := hb2.p.order (t := t) (s := oth) hmlt ho
      have hrnext := rnext_any _ db sl T g t hb2.d hlen
      have hrprev := rprev_any _ db sl T g t hb2.d hlen
      have hrorder := fun n => rorder_any _ db sl T g t oth (hb2.drewN n).d hlen
      have HD : Hid (∀ n, Did B w pb db S T g kind (((w.alloc (.cells #[.int .i64 kind, .int .i64 how, .int .u64 (tag : Int), .int .u64 (oth : Int)] 38)).alloc (.cells #[.int .i64 kind, .int .i64 how, .int .u64 (tag : Int), .int .u64 (oth : Int)] 38)).drewN n)) := fun n => ⟨⟨hbel.os, hbel.tape, hbel.output, hbel.size, hbel.block⟩, S, sl, T, g, hb2.drewN n, Nat.le_refl _, Nat.le_succ _, fun e => absurd e h0, fun _ => ⟨rfl, rfl, fun n hn => hn⟩⟩
      clear h hb2 hbel h0 hB2 h1
      go_enter Try.func7, Try.ntmps7
      go_wp2_with fail
      refine hmeant.mono ?_
      rintro e w2 ⟨rfl, rfl⟩
      go_wp2_with fail
      refine hnext.mono ?_
      rintro e w3 ⟨rfl, rfl⟩
      go_wp2_with fail
      refine hrnext.mono ?_
      rintro e w3 ⟨rfl, rfl⟩
      go_wp2_with fail
      refine hprev.mono ?_
      rintro e w3 ⟨rfl, rfl⟩
      go_wp2_with fail
      refine hrprev.mono ?_
      rintro e w3 ⟨rfl, rfl⟩
      clear hnext hprev hrnext hrprev
      go_wp2_with fail
      refine horder.mono ?_
      rintro e w3 ⟨rfl, n, rfl⟩
      go_wp2_with fail
      refine (hrorder n).mono ?_
      rintro e w3 ⟨rfl, rfl⟩
      clear horder hrorder
      go_wp2
      go_ret
      exact ⟨rfl, HD.out n⟩

end Go.Proofs.Ytkppcnednfjbhaa
