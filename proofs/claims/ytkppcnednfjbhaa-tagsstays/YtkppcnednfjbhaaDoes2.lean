/- An act that gives no tag, done by the program and by the document: which blocks it can turn, and what stays. -/
import Derived.Test.YtkppcnednfjbhaaDoes
namespace Go.Proofs.Ytkppcnednfjbhaa
open Go.RowKit Go.Maps

/-- What an act that gives no tag leaves. -/
def Kept (B : Nat) (w : World) (pb db : Nat) (S : St) (sl : Option (Nat × Nat)) (g : Nat) (w' : World) : Prop :=
  ∃ S' sl' T', Both B w' pb db S' sl' T' g ∧ S'.writes = S.writes ∧ (∀ n ∈ S'.ns, n ∈ S.ns) ∧ Turn (fun k => Own pb S k ∨ ROwn db sl k) w w' ∧ (∀ k, Own pb S' k → Own pb S k) ∧ (∀ k, ROwn db sl' k → ROwn db sl k ∨ w.heap.size ≤ k)

set_option maxRecDepth 100000 in
set_option maxHeartbeats 1000000 in
theorem does_fine (B : Nat) (w : World) (pb db : Nat) (S : St) (sl : Option (Nat × Nat)) (T : List Nat) (g : Nat) (kind how : Int) (tag oth : Nat) (h : Both B w pb db S sl T g) (hB : B ≤ w.heap.size) (h0 : kind ≠ 0) (hg : g < 18014398509481984) (ht : tag < 18446744073709551616) (ho : oth < 18446744073709551616) :
    Calls Try.prog 7 #[.pointer (some ⟨pb, 0, none⟩), .pointer (some ⟨db, 0, none⟩), .agg #[.int .i64 kind, .int .i64 how, .int .u64 (tag : Int), .int .u64 (oth : Int)]] w fun e w' => e = .returned (.bool true) ∧ Kept B w pb db S sl g w' := by
  have hlen := h.p.tlen
  have hmeant := meant_any (w.alloc (.cells #[.int .i64 kind, .int .i64 how, .int .u64 (tag : Int), .int .u64 (oth : Int)] 38)) db sl T g kind how tag oth (h.alloc _).d hlen ht
  have hb2 := (h.alloc (.cells #[.int .i64 kind, .int .i64 how, .int .u64 (tag : Int), .int .u64 (oth : Int)] 38)).alloc (.cells #[.int .i64 kind, .int .i64 how, .int .u64 (tag : Int), .int .u64 (oth : Int)] 38)
  have hmlt := meantN_lt (T := T) (how := how) ht (fun t ht => (h.p.mem ht).2) (g := g) (by omega)
  generalize meantN T how tag = t at *
  have hB2 : B ≤ ((w.alloc (.cells #[.int .i64 kind, .int .i64 how, .int .u64 (tag : Int), .int .u64 (oth : Int)] 38)).alloc (.cells #[.int .i64 kind, .int .i64 how, .int .u64 (tag : Int), .int .u64 (oth : Int)] 38)).heap.size := by simp; omega
  have hsz : w.heap.size ≤ ((w.alloc (.cells #[.int .i64 kind, .int .i64 how, .int .u64 (tag : Int), .int .u64 (oth : Int)] 38)).alloc (.cells #[.int .i64 kind, .int .i64 how, .int .u64 (tag : Int), .int .u64 (oth : Int)] 38)).heap.size := by simp; omega
  have htu : Turn (fun k => Own pb S k ∨ ROwn db sl k) w ((w.alloc (.cells #[.int .i64 kind, .int .i64 how, .int .u64 (tag : Int), .int .u64 (oth : Int)] 38)).alloc (.cells #[.int .i64 kind, .int .i64 how, .int .u64 (tag : Int), .int .u64 (oth : Int)] 38)) := ((Turn.refl _ w).alloc _).alloc _
  have hk : (kind == 0) = false := beq_eq_false_iff_ne.2 h0
  by_cases h1 : kind = 1
  · have hk1 : (kind == 1) = true := beq_iff_eq.2 h1
    have hdrop := drop_has _ pb S T g t hb2.p hmlt
    have HH : Hid (Both B ((w.alloc (.cells #[.int .i64 kind, .int .i64 how, .int .u64 (tag : Int), .int .u64 (oth : Int)] 38)).alloc (.cells #[.int .i64 kind, .int .i64 how, .int .u64 (tag : Int), .int .u64 (oth : Int)] 38)) pb db S sl T g) := hb2
    have HB : Hid (Turn (fun k => Own pb S k ∨ ROwn db sl k) w ((w.alloc (.cells #[.int .i64 kind, .int .i64 how, .int .u64 (tag : Int), .int .u64 (oth : Int)] 38)).alloc (.cells #[.int .i64 kind, .int .i64 how, .int .u64 (tag : Int), .int .u64 (oth : Int)] 38))) := htu
    have HB3 : Hid (B ≤ ((w.alloc (.cells #[.int .i64 kind, .int .i64 how, .int .u64 (tag : Int), .int .u64 (oth : Int)] 38)).alloc (.cells #[.int .i64 kind, .int .i64 how, .int .u64 (tag : Int), .int .u64 (oth : Int)] 38)).heap.size) := hB2
    have HS : Hid (w.heap.size ≤ ((w.alloc (.cells #[.int .i64 kind, .int .i64 how, .int .u64 (tag : Int), .int .u64 (oth : Int)] 38)).alloc (.cells #[.int .i64 kind, .int .i64 how, .int .u64 (tag : Int), .int .u64 (oth : Int)] 38)).heap.size) := hsz
    clear h hb2 htu h0 hB2 h1 hsz
    go_enter Try.func7, Try.ntmps7
    go_wp2_with fail
    refine hmeant.mono ?_
    rintro e w2 ⟨rfl, rfl⟩
    go_wp2_with fail
    refine hdrop.mono ?_
    rintro e w3 ⟨rfl, S', hH, hT, hO, hW, hN⟩
    have hO2 : ∀ k, Own pb S' k → Own pb S k ∨ ((w.alloc (.cells #[.int .i64 kind, .int .i64 how, .int .u64 (tag : Int), .int .u64 (oth : Int)] 38)).alloc (.cells #[.int .i64 kind, .int .i64 how, .int .u64 (tag : Int), .int .u64 (oth : Int)] 38)).heap.size ≤ k := fun k hk => .inl (hO k hk)
    have hm := HH.out.mid hH hT hO2
    have hrdrop := rdrop_any w3 db sl T g t hm.1 hlen
    have H1 : Hid (Has w3 pb S' (dropT T t) g) := hH
    have H2 : Hid (Turn (Own pb S) _ w3) := hT
    have H3 : Hid (∀ k, Own pb S' k → Own pb S k) := hO
    have H4 : Hid (S'.writes = S.writes ∧ ∀ n ∈ S'.ns, n ∈ S.ns) := ⟨hW, hN⟩
    clear hH hT hO hm hdrop hmeant hO2 hW hN
    go_wp2_with fail
    refine hrdrop.mono ?_
    rintro e w4 ⟨rfl, sl', hR, hT', hO'⟩
    have hl := HH.out.last HB3.out H1.out H2.out (fun k hk => .inl (H3.out k hk)) hR hT' hO'
    have HD : Hid (Kept B w pb db S sl g w4) := by
      refine ⟨S', sl', _, hl.1, H4.out.1, H4.out.2, ?_, H3.out, fun k hk => ?_⟩
      · exact (HB.out.trans (H2.out.mono (fun k _ hk => .inl hk))).trans (hT'.mono (fun k _ hk => .inr (.inl hk)))
      · rcases hO' k hk with h1 | h1
        · exact .inl h1
        · exact .inr (Nat.le_trans HS.out (Nat.le_trans H2.out.size h1))
    clear hR hT' hO' hl hrdrop
    go_wp2
    go_ret
    exact ⟨rfl, HD.out⟩
  · have hk1 : (kind == 1) = false := beq_eq_false_iff_ne.2 h1
    have hnext := hb2.p.next (t := t) hmlt
    have hprev := hb2.p.prev (t := t) hmlt
    have horder := hb2.p.order (t := t) (s := oth) hmlt ho
    have hrnext := rnext_any _ db sl T g t hb2.d hlen
    have hrprev := rprev_any _ db sl T g t hb2.d hlen
    have hrorder := fun n => rorder_any _ db sl T g t oth (hb2.drewN n).d hlen
    have HD : Hid (∀ n, Kept B w pb db S sl g (((w.alloc (.cells #[.int .i64 kind, .int .i64 how, .int .u64 (tag : Int), .int .u64 (oth : Int)] 38)).alloc (.cells #[.int .i64 kind, .int .i64 how, .int .u64 (tag : Int), .int .u64 (oth : Int)] 38)).drewN n)) := fun n => ⟨S, sl, T, hb2.drewN n, rfl, fun n hn => hn, htu.drewN n, fun k hk => hk, fun k hk => .inl hk⟩
    clear h hb2 htu h0 hB2 h1 hsz
    go_enter Try.func7, Try.ntmps7
    go_wp2_with fail
    refine hmeant.mono ?_
    rintro e w2 ⟨rfl, rfl⟩
    go_wp2_with fail
    refine hnext.mono ?_
    rintro e w3 ⟨rfl, rfl⟩
    go_wp2_with fail
    refine hrnext.mono ?_
    rintro e w3 ⟨rfl, rfl⟩
    go_wp2_with fail
    refine hprev.mono ?_
    rintro e w3 ⟨rfl, rfl⟩
    go_wp2_with fail
    refine hrprev.mono ?_
    rintro e w3 ⟨rfl, rfl⟩
    clear hnext hprev hrnext hrprev
    go_wp2_with fail
    refine horder.mono ?_
    rintro e w3 ⟨rfl, n, rfl⟩
    go_wp2_with fail
    refine (hrorder n).mono ?_
    rintro e w3 ⟨rfl, rfl⟩
    clear horder hrorder
    go_wp2
    go_ret
    exact ⟨rfl, HD.out n⟩

end Go.Proofs.Ytkppcnednfjbhaa
