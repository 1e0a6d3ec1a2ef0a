/- The document's first example: lives. -/
import Derived.Test.YtjkgjckkglfokaaGreatS01
import Derived.Test.YtjkgjckkglfokaaGreatS27
import Derived.Test.YtjkgjckkglfokaaGreatS24
namespace Go.Proofs.YtjkgjckkglfokaaGreat
open Go.RowKit Go.Shelf
open Gr (Dc Sl View WF sl par hvals allR idxH T Nd TreeAt insE insD PDoc lst)
set_option linter.unusedVariables false
set_option linter.unusedSimpArgs false
set_option maxRecDepth 100000
set_option maxHeartbeats 2000000
attribute [local go_sem] Oper.semAt_some
def D0 : Dc := ⟨[], []⟩
theorem sl_D0 (h : Nat) : sl D0 h = none := by
 cases e : sl D0 h with
 | none => rfl
 | some s =>
  obtain ⟨i, -, h2, -⟩ := Gr.sl_live e
  simp [D0] at h2
theorem lst_D0 (p : Nat) : lst D0 p = [] := by
 by_cases h : p = 0
 ·subst h; rfl
 ·simp [lst, h, sl_D0]
theorem wf_D0 : WF D0 := by
 refine ⟨⟨by simp [D0], fun i s h => by simp [D0] at h⟩, fun i s h => by simp [D0] at h, fun i s h => by simp [D0] at h, fun i s h => by simp [D0] at h, fun i s h => by simp [D0] at h, ⟨fun _ => 0, fun h s e => (by rw [sl_D0] at e; cases e)⟩, fun h s e => (by rw [sl_D0] at e; cases e), fun p _ h hh => (by rw [lst_D0] at hh; cases hh), fun p => (by rw [lst_D0]; exact List.nodup_nil)⟩
theorem pdoc_new (w : World) : PDoc (w.alloc (.cells #[.slice none 0 0, .slice none 0 0, .int .i64 0] 66)) (fun b => if b = w.heap.size then 1 else 0) w.heap.size D0 :=
 ⟨none, 0, none, 0, [], Gr.isCells_new w _ _, Gr.own_nil _ _ _ _, Gr.own_nil _ _ _ _, rfl, fun i s p h => by simp [D0] at h, by simp, fun b h => by simp [Value.ownBlock] at h, fun b h => by simp [Value.ownBlock] at h, fun i p b h => by simp at h, fun i p b h => by simp at h, fun b hb => by
  by_cases e : b = w.heap.size
  ·subst e; simp
  ·simp [e] at hb⟩
def nod {n : Nat} (c : UInt8) (ks : List (T n)) : T (n + 1) := ({ kind := 1, name := ⟨#[c]⟩, attrs := [], text := ⟨#[]⟩, kids := ks } : Nd (T n))
def tA : T 3 := nod 97 [nod 98 [], nod 99 [nod 100 []], nod 101 []]
def D1 : Dc := (insD D0 2 0 3 tA).1
theorem d1_ins : insE D0 2 0 3 tA = 0 := by kernel_rfl
theorem d1_h : (insD D0 2 0 3 tA).2 = 4294967297 := by kernel_rfl
theorem d1_all : allR D1 = [4294967297, 4294967298, 4294967299, 4294967300, 4294967301] := by kernel_rfl
theorem d1_sl : (sl D1 4294967301).isSome = true := by kernel_rfl
theorem d1_ahead : ahead D1 4294967301 4 = [4294967300, 4294967299, 4294967298] := by kernel_rfl
theorem wf_D1 : WF D1 := wf_D0.insD 2 0 3 tA
def nv (c : UInt8) (k : Value) : Array Value := #[.int .i64 1, .string ⟨#[c]⟩, .slice none 0 0, .string ⟨#[]⟩, k]
theorem nod_at {w : World} {lo hi n : Nat} (c : UInt8) : TreeAt w lo hi (n + 1) (nv c (.slice none 0 0)) (nod c []) :=
 ⟨none, 0, none, 0, rfl, Nat.zero_le _, Nat.zero_le _, Nat.le_refl _, Nat.le_refl _, fun i p h => by simp [nod] at h, fun i k h => by simp [nod] at h⟩
theorem leaf_any (w : World) (s : ByteArray) (a : Option Addr) (n c : Nat) : Calls Tryz.prog 45 #[.string s, .slice a n c] w fun e w' => e = .returned (.agg #[.int .i64 1, .string s, .slice none 0 0, .string ⟨#[]⟩, .slice a n c]) /\ Below w.heap.size w w' := by
 go_enter Tryz.func45, Tryz.ntmps45
 go_wp2
 have hc := Gr.isCells_new w #[.int .i64 1, .string s, .slice none 0 0, .string ⟨#[]⟩, .slice a n c] 31
 have r0 := hc.cell 0
 have r1 := hc.cell 1
 have r2 := hc.cell 2
 have r3 := hc.cell 3
 have r4 := hc.cell 4
 simp only [List.getElem?_toArray, List.getElem?_cons_zero, List.getElem?_cons_succ] at r0 r1 r2 r3 r4
 exact bodyPost_ret (v := .agg #[.int .i64 1, .string s, .slice none 0 0, .string ⟨#[]⟩, .slice a n c]) (by simp [results, Tryz.results45, go_sem, r0, r1, r2, r3, r4]) rfl ⟨rfl, (Below.refl _ _).alloc (Nat.le_refl _) _⟩
theorem nod_kids {w : World} {lo hi n g : Nat} {c : UInt8} {ks : List (T n)} {vs : List (Array Value)} {cap : Nat} (hv : vs.length = ks.length) (hs : ∀ v ∈ vs, v.size = 5) (hg : Gr.IsCells w g (vs.flatMap (·.toList)).toArray) (h1 : lo <= g) (h2 : g < hi) (hl : ks.length <= 1000) (hc : ks.length <= cap)
  (hk : ∀ (i : Nat) (v : Array Value) (k : T n), vs[i]? = some v -> ks[i]? = some k -> TreeAt w lo hi n v k) : TreeAt w lo hi (n + 1) (nv c (.slice (some ⟨g, 0, none⟩) ks.length cap)) (nod c ks) := by
 refine ⟨none, 0, some ⟨g, 0, none⟩, cap, rfl, Nat.zero_le _, by show ks.length <= _; unfold Gr.maxK; omega, Nat.le_refl _, hc, fun i p h => by simp [nod] at h, fun i k hik => ?_⟩
 have hik' : ks[i]? = some k := hik
 have hi : i < ks.length := (List.getElem?_eq_some_iff.1 hik').1
 have hvi : vs[i]? = some vs[i] := List.getElem?_eq_getElem (by omega)
 refine ⟨g, 0, vs[i], rfl, h1, h2, hs _ (List.getElem_mem _), fun j hj => ?_, hk i _ k hvi hik'⟩
 rw [hg.cell]
 have key : ∀ (l : List (Array Value)) (m : Nat) (u : Array Value), (∀ v ∈ l, v.size = 5) -> l[m]? = some u -> (l.flatMap (·.toList))[m * 5 + j]? = u[j]? := by
  intro l
  induction l with
  | nil => intro m u _ h; simp at h
  | cons a r ih =>
   intro m u hs h
   have ha : a.toList.length = 5 := by simpa using hs a (List.mem_cons_self ..)
   rw [List.flatMap_cons]
   cases m with
   | zero =>
    simp only [List.getElem?_cons_zero, Option.some.injEq] at h
    subst h
    rw [Nat.zero_mul, Nat.zero_add, List.getElem?_append_left (by omega)]
    simp
   | succ m =>
    rw [List.getElem?_append_right (by omega), ha, show (m + 1) * 5 + j - 5 = m * 5 + j by omega]
    exact ih m u (fun v hv => hs v (List.mem_cons_of_mem _ hv)) (by simpa using h)
 have := key vs i vs[i] hs hvi
 simpa using this
theorem lives_any (w : World) : Calls Tryz.prog 16 #[] w fun e w' => e = .returned (.bool true) /\ Below w.heap.size w w' := by
 obtain ⟨w1, hw1⟩ : ∃ w1, w.alloc (.cells #[.slice none 0 0, .slice none 0 0, .int .i64 0] 66) = w1 := ⟨_, rfl⟩
 have HW1 := hid hw1
 have hp := pdoc_new w
 rw [hw1] at hp
 have HP := hid hp
 have hs1 : w1.heap.size = w.heap.size + 1 := by rw [<- hw1]; simp
 have HS1 := hid hs1
 have HB1 : Hid (Below w.heap.size w w1) := by show Below _ _ _; rw [<- hw1]; exact (Below.refl _ _).alloc (Nat.le_refl _) _
 clear hw1 hp hs1
 go_enter Tryz.func16, Tryz.ntmps16
 go_wp2_with fail
 rw [HW1.out]
 refine Calls.mono (leaf_any w1 ⟨#[98]⟩ none 0 0) ?_
 rintro e w2 ⟨rfl, hb2⟩
 have HB2 := hid hb2
 clear hb2
 go_wp2_with fail
 refine Calls.mono (leaf_any w2 ⟨#[100]⟩ none 0 0) ?_
 rintro e w3 ⟨rfl, hb3⟩
 have HB3 := hid hb3
 clear hb3
 obtain ⟨w4, hw4⟩ : ∃ w4, w3.alloc (.cells #[.int .i64 1, .string ⟨#[100]⟩, .slice none 0 0, .string ⟨#[]⟩, .slice none 0 0] 31) = w4 := ⟨_, rfl⟩
 have HW4 := hid hw4
 have HC4 : Hid (Gr.IsCells w4 w3.heap.size (nv 100 (.slice none 0 0)) /\ Below w3.heap.size w3 w4 /\ w3.heap.size < w4.heap.size) := by
  have hh := Gr.isCells_new w3 (nv 100 (.slice none 0 0)) 31
  unfold nv at hh ⊢
  rw [hw4] at hh
  exact ⟨hh, by rw [<- hw4]; exact (Below.refl _ _).alloc (Nat.le_refl _) _, hh.lt⟩
 clear hw4
 go_wp2_with fail
 rw [HW4.out]
 refine Calls.mono (leaf_any w4 ⟨#[99]⟩ (some ⟨w3.heap.size, 0, none⟩) 1 1) ?_
 rintro e w5 ⟨rfl, hb5⟩
 have HB5 := hid hb5
 clear hb5
 go_wp2_with fail
 refine Calls.mono (leaf_any w5 ⟨#[101]⟩ none 0 0) ?_
 rintro e w6 ⟨rfl, hb6⟩
 have HB6 := hid hb6
 clear hb6
 obtain ⟨w7, hw7⟩ : ∃ w7, w6.alloc (.cells #[.int .i64 1, .string ⟨#[98]⟩, .slice none 0 0, .string ⟨#[]⟩, .slice none 0 0, .int .i64 1, .string ⟨#[99]⟩, .slice none 0 0, .string ⟨#[]⟩, .slice (some ⟨w3.heap.size, 0, none⟩) 1 1, .int .i64 1, .string ⟨#[101]⟩, .slice none 0 0, .string ⟨#[]⟩, .slice none 0 0] 31) = w7 := ⟨_, rfl⟩
 have HW7 := hid hw7
 have HC7 : Hid (Gr.IsCells w7 w6.heap.size ([nv 98 (.slice none 0 0), nv 99 (.slice (some ⟨w3.heap.size, 0, none⟩) 1 1), nv 101 (.slice none 0 0)].flatMap (·.toList)).toArray /\ Below w6.heap.size w6 w7 /\ w6.heap.size < w7.heap.size) := by
  have hh := Gr.isCells_new w6 #[.int .i64 1, .string ⟨#[98]⟩, .slice none 0 0, .string ⟨#[]⟩, .slice none 0 0, .int .i64 1, .string ⟨#[99]⟩, .slice none 0 0, .string ⟨#[]⟩, .slice (some ⟨w3.heap.size, 0, none⟩) 1 1, .int .i64 1, .string ⟨#[101]⟩, .slice none 0 0, .string ⟨#[]⟩, .slice none 0 0] 31
  rw [hw7] at hh
  exact ⟨hh, by rw [<- hw7]; exact (Below.refl _ _).alloc (Nat.le_refl _) _, hh.lt⟩
 clear hw7
 go_wp2_with fail
 rw [HW7.out]
 refine Calls.mono (leaf_any w7 ⟨#[97]⟩ (some ⟨w6.heap.size, 0, none⟩) 3 3) ?_
 rintro e w8 ⟨rfl, hb8⟩
 have b48 : Below w4.heap.size w4 w8 := by
  have h1 := HB5.out.trans (HB6.out.mono HB5.out.size)
  have h2 := h1.trans (HC7.out.2.1.mono h1.size)
  exact h2.trans (hb8.mono h2.size)
 have b78 : Below w7.heap.size w7 w8 := hb8
 have b18 : Below w1.heap.size w1 w8 := by
  have h1 := HB2.out.trans (HB3.out.mono HB2.out.size)
  have h2 := h1.trans (HC4.out.2.1.mono h1.size)
  exact h2.trans (b48.mono h2.size)
 have hz3 : w1.heap.size <= w3.heap.size := Nat.le_trans HB2.out.size HB3.out.size
 have hz4 : w3.heap.size < w4.heap.size := HC4.out.2.2
 have hz6 : w4.heap.size <= w6.heap.size := Nat.le_trans HB5.out.size HB6.out.size
 have hz7 : w6.heap.size < w7.heap.size := HC7.out.2.2
 have hz8 : w7.heap.size <= w8.heap.size := b78.size
 have k3 : Gr.IsCells w8 w3.heap.size (nv 100 (.slice none 0 0)) := HC4.out.1.of_block (b48.block _ hz4)
 have k6 : Gr.IsCells w8 w6.heap.size ([nv 98 (.slice none 0 0), nv 99 (.slice (some ⟨w3.heap.size, 0, none⟩) 1 1), nv 101 (.slice none 0 0)].flatMap (·.toList)).toArray := HC7.out.1.of_block (b78.block _ hz7)
 have htree : TreeAt w8 w1.heap.size w8.heap.size 3 (nv 97 (.slice (some ⟨w6.heap.size, 0, none⟩) 3 3)) tA := by
  refine nod_kids (ks := [nod 98 [], nod 99 [nod 100 []], nod 101 []]) (vs := [nv 98 (.slice none 0 0), nv 99 (.slice (some ⟨w3.heap.size, 0, none⟩) 1 1), nv 101 (.slice none 0 0)]) rfl (by simp [nv]) k6 (by omega) (by omega) (by simp) (Nat.le_refl _) ?_
  intro i v k hv hk
  match i, hv, hk with
  | 0, hv, hk =>
   cases hv; cases hk
   exact nod_at 98
  | 1, hv, hk =>
   cases hv; cases hk
   refine nod_kids (ks := [nod 100 []]) (vs := [nv 100 (.slice none 0 0)]) rfl (by simp [nv]) (by simpa using k3) (by omega) (by omega) (by simp) (Nat.le_refl _) ?_
   intro i v k hv hk
   match i, hv, hk with
   | 0, hv, hk =>
    cases hv; cases hk
    exact nod_at 100
   | i + 1, hv, hk => simp at hv
  | 2, hv, hk =>
   cases hv; cases hk
   exact nod_at 101
  | i + 3, hv, hk => simp at hv
 have hins := Gr.pins_any 3 w8 _ tA w1.heap.size w8.heap.size (fun b => if b = w.heap.size then 1 else 0) w.heap.size 0 2 D0 htree (Nat.le_refl _) (fun b hb h => by
  have hs := HS1.out
  by_cases e : b = w.heap.size
  ·omega
  ·simp [e] at hb) (HP.out.turn (A := fun _ => False) ⟨b18.os, b18.tape, b18.output, b18.size, fun k hk _ => b18.block k hk⟩ (fun _ _ h => h)) wf_D0 (by decide)
 rw [d1_h, d1_ins] at hins
 have HB8 := hid (HB1.out.trans (b18.mono HB1.out.size))
 clear b48 b78 b18 hz3 hz4 hz6 hz7 hz8 k3 k6 htree hb8
 unfold nv at hins
 go_wp2_with fail
 refine Calls.mono hins ?_
 rintro e w9 ⟨rfl, ht9, ro', hd9, -⟩
 have hv9 : View w9 (fun b => ro' b ≠ 0) w.heap.size D1 := hd9.view
 have HB9 : Hid (Below w.heap.size w w9) := HB8.out.trans (ht9.below (B := w.heap.size) HB8.out.size (fun k hk => by
  by_cases e : k = w.heap.size
  ·omega
  ·simp [e] at hk))
 obtain ⟨h1, g1⟩ : ∃ h : Nat, h = 4294967297 := ⟨_, rfl⟩
 obtain ⟨h2, g2⟩ : ∃ h : Nat, h = 4294967298 := ⟨_, rfl⟩
 obtain ⟨h3, g3⟩ : ∃ h : Nat, h = 4294967299 := ⟨_, rfl⟩
 obtain ⟨h4, g4⟩ : ∃ h : Nat, h = 4294967300 := ⟨_, rfl⟩
 obtain ⟨h5, g5⟩ : ∃ h : Nat, h = 4294967301 := ⟨_, rfl⟩
 have eall : allR D1 = [h1, h2, h3, h4, h5] := by rw [d1_all, g1, g2, g3, g4, g5]
 have eah : ahead D1 h5 4 = [h4, h3, h2] := by rw [g5, d1_ahead, g2, g3, g4]
 have eix : idxH (allR D1) h5 = ((4 : Nat) : Int) := by rw [d1_all, g5]; decide
 obtain ⟨s5, es5⟩ : ∃ s, sl D1 h5 = some s := by rw [g5]; exact Option.isSome_iff_exists.1 d1_sl
 clear g1 g2 g3 g4 g5
 have hal := Gr.pall_zero w9 _ w.heap.size D1 hv9 wf_D1
 unfold Gr.AllP at hal
 rw [eall] at hal
 simp only [List.length_cons, List.length_nil, Nat.reduceAdd] at hal
 have HV9 : Hid (View w9 (fun b => ro' b ≠ 0) w.heap.size D1 /\ allR D1 = [h1, h2, h3, h4, h5] /\ ahead D1 h5 4 = [h4, h3, h2] /\ idxH (allR D1) h5 = ((4 : Nat) : Int) /\ sl D1 h5 = some s5) := ⟨hv9, eall, eah, eix, es5⟩
 clear ht9 hd9 hv9 hins eall eah eix es5
 go_wp2_with fail
 refine Calls.mono hal ?_
 rintro e w10 ⟨a, cap, rfl, ho, hb10⟩
 obtain ⟨g, rfl, hg1, hg2, hcap, hd, -⟩ := row_hands (L := [h1, h2, h3, h4, h5]) (n := 5) ho rfl (by decide)
 have hc : ∀ (i x : Nat), [h1, h2, h3, h4, h5][i]? = some x -> w10.cell? ⟨g, i, none⟩ = some (.int .u64 (x : Int)) := fun i x hx => by
  obtain ⟨o, e, -, q⟩ := hd i x hx
  cases e
  rw [Nat.zero_add] at q
  exact q
 have c1 := hc 1 h2 rfl
 have c2 := hc 2 h3 rfl
 have c3 := hc 3 h4 rfl
 have c4 := hc 4 h5 rfl
 have hv10 := HV9.out.1.below hb10
 have HB10 := hid (HB9.out.trans (hb10.mono HB9.out.size))
 have hax := mk_axis w10 _ w.heap.size D1 h5 8 s5 (by omega) (by omega) hv10 wf_D1 HV9.out.2.2.2.2
 have HV10 := hid hv10
 clear ho hb10 hd hc hv10 hal
 go_wp2_with fail
 refine Calls.mono hax ?_
 rintro e w11 ⟨rfl, t11, y0, y1, y2⟩
 have d1 : w11.cell? ⟨g, 1, none⟩ = some (.int .u64 (h2 : Int)) := (World.cell?_of_block (w := w10) (a := ⟨g, 1, none⟩) (t11.block g hg2 id)).trans c1
 have d2 : w11.cell? ⟨g, 2, none⟩ = some (.int .u64 (h3 : Int)) := (World.cell?_of_block (w := w10) (a := ⟨g, 2, none⟩) (t11.block g hg2 id)).trans c2
 have d3 : w11.cell? ⟨g, 3, none⟩ = some (.int .u64 (h4 : Int)) := (World.cell?_of_block (w := w10) (a := ⟨g, 3, none⟩) (t11.block g hg2 id)).trans c3
 have hgl : g < w11.heap.size := Nat.lt_of_lt_of_le hg2 t11.size
 have HY : Hid (Tn (fun _ => False) w10 w11 /\ IsC w11 w10.heap.size #[.pointer (some ⟨w.heap.size, 0, none⟩)] /\ IsC w11 (w10.heap.size + 1) #[.int .i64 8] /\ IsC w11 (w10.heap.size + 2) #[.int .u64 (h5 : Int)]) := ⟨t11, y0, y1, y2⟩
 clear t11 y0 y1 y2 c1 c2 c3 c4 hax
 obtain ⟨w12, hw12⟩ : ∃ w12, (w11.alloc (.cells #[.int .u64 (h4 : Int), .int .u64 (h3 : Int), .int .u64 (h2 : Int)] 27)).drew = w12 := ⟨_, rfl⟩
 have HW12 := hid hw12
 have t12 : Tn (fun _ => False) w11 w12 := by rw [<- hw12]; exact ((Tn.refl _ _).alloc _).drew
 have hcs : IsC w12 w11.heap.size #[.int .u64 (h4 : Int), .int .u64 (h3 : Int), .int .u64 (h2 : Int)] := by rw [<- hw12]; exact isC_new w11 _ 27
 have hwant : HdsAt w12 w11.heap.size (some ⟨w11.heap.size, 0, none⟩) [h4, h3, h2] := fun i x hx => by
  refine ⟨0, rfl, hcs.lt, ?_⟩
  rw [Nat.zero_add, hcs.cell]
  match i, hx with
  | 0, hx => cases hx; rfl
  | 1, hx => cases hx; rfl
  | 2, hx => cases hx; rfl
  | i + 3, hx => simp at hx
 have t1012 : Tn (fun _ => False) w10 w12 := HY.out.1.trans t12 (fun _ _ h => h)
 have hseq := axis_seq (R := fun b => ro' b ≠ 0) (db := w.heap.size) (D := D1) (h := h5) (k := 8) (s := s5) wf_D1 HV9.out.2.2.2.2 (L := [h4, h3, h2]) (fun W hvW => along_prec W _ _ D1 h5 4 s5 hvW wf_D1 HV9.out.2.2.2.2 HV9.out.2.2.2.1 (by rw [HV9.out.2.1]; simp) _ HV9.out.2.2.1) (by simp) (d1 := w10.heap.size) (d2 := w10.heap.size + 2) (d3 := w10.heap.size + 1)
 have hgo := goes_any hseq (enters_of Tryz.func25 (by kernel_rfl) rfl) w12 ⟨HV10.out.turn t1012.gr (fun _ _ h => h), HY.out.2.1.tn t12 id, HY.out.2.2.2.tn t12 id, HY.out.2.2.1.tn t12 id⟩ (some ⟨w11.heap.size, 0, none⟩) 3 w11.heap.size hwant (fun _ h => h) (by simp)
 simp only [List.length_cons, List.length_nil, Nat.reduceAdd] at hgo
 have HB12 := hid (HB10.out.trans (t1012.below HB10.out.size (fun _ h => h.elim)))
 clear hw12 t12 hcs hwant t1012 hseq
 go_wp2_with (first | go_region | fail)
 rw [HW12.out]
 refine Calls.mono (callsIn_wide.1 hgo) ?_
 rintro e w13 ⟨rfl, t13, -⟩
 have HB13 := hid (HB12.out.trans (t13.below HB12.out.size (fun _ h => h.elim)))
 clear t13 hgo
 go_wp2
 go_ret
 exact ⟨rfl, HB13.out⟩
end Go.Proofs.YtjkgjckkglfokaaGreat
/- WalkParts, walked. -/
namespace Go.Proofs.YtjkgjckkglfokaaGreat
open Go.RowKit Go.Shelf
open Gr (Dc Sl View WF sl par hvals allR idxH allH lst ups Lev)
set_option linter.unusedVariables false
set_option linter.unusedSimpArgs false
set_option maxRecDepth 100000
set_option maxHeartbeats 4000000
attribute [local go_sem] Oper.semAt_some
def OnP (w : World) (e : Ending) (w' : World) : Prop := e = .returned (.bool true) /\ Below w.heap.size w w'
def ksP : List Nat := [11, 5, 2, 8, 7]
def catP (D : Dc) (n i : Nat) : List Nat := (ksP.take i).flatMap (fun k => axl D k n)
theorem catP_step {D : Dc} {n i k : Nat} (h : ksP[i]? = some k) : catP D n (i + 1) = catP D n i ++ axl D k n := by
 unfold catP
 rw [List.take_add_one, h]
 simp
theorem catP_all {D : Dc} (hw : WF D) {h : Nat} {s : Sl} (e : sl D h = some s) : (catP D h 5).Perm (allR D) := by
 have := parts hw e
 unfold catP ksP
 simpa [List.flatMap_cons, List.append_assoc] using this
theorem catP_pre {D : Dc} {n i : Nat} : catP D n i <+: catP D n 5 := by
 have h5 : catP D n 5 = ksP.flatMap (fun k => axl D k n) := rfl
 rw [h5]
 conv => rhs; rw [<- List.take_append_drop i ksP, List.flatMap_append]
 exact List.prefix_append _ _
theorem along_parts {D : Dc} {R : Nat -> Prop} {db h k i : Nat} {s : Sl} (hk : ksP[i]? = some k) (hw : WF D) (hs : sl D h = some s) (W : World) (hv : View W R db D) : Calls Tryz.prog 27 #[.pointer (some ⟨db, 0, none⟩), .int .i64 (k : Int), .int .u64 (h : Int)] W (AlP W (axl D k h)) := by
 match i, hk with
 | 0, hk => cases hk; exact along_self W db h
 | 1, hk => cases hk; exact along_anc W R db D h s hv hw hs
 | 2, hk => cases hk; exact along_desc W R db D h s hv hw hs
 | 3, hk => cases hk; exact along_pre W R db D h s hv hw hs
 | 4, hk => cases hk; exact along_fol W R db D h s hv hw hs
 | i + 5, hk => simp [ksP] at hk
theorem ksP_in {i k : Nat} (hk : ksP[i]? = some k) : 1 <= k /\ k <= 11 /\ i < 5 := by
 match i, hk with
 | 0, hk => cases hk; omega
 | 1, hk => cases hk; omega
 | 2, hk => cases hk; omega
 | 3, hk => cases hk; omega
 | 4, hk => cases hk; omega
 | i + 5, hk => simp [ksP] at hk
theorem parts_walk (w : World) (aa : Option Addr) (an ac x : Nat) (h1 : Gr.ActsAt w w.heap.size aa an) (l1 : an < 4611686018427387904) (hx : x < 18446744073709551616) :
  Calls Tryz.prog 4 #[.slice aa an ac, .int .u64 (x : Int)] w (OnP w) := by
 have HA := hid h1
 clear h1
 go_enter Tryz.func4, Tryz.ntmps4
 go_wp2_with fail
 refine Calls.mono (lives_any w) ?_
 rintro e w1 ⟨rfl, hb1⟩
 have hpl := played_any w w1 hb1 aa an ac HA.out l1
 clear hb1 HA
 go_wp2_with fail
 refine hpl.mono ?_
 rintro e w2 ⟨ro, db, D, a, c, rfl, hw, hv, ho, hb2⟩
 have HV : Hid (WF D /\ View w2 (fun b => ro b ≠ 0) db D /\ Below w.heap.size w w2) := ⟨hw, hv, hb2⟩
 clear hpl
 have hlen := (Gr.roots_len hw).2
 by_cases h0 : (allR D).length = 0
 ·have hz : (((allR D).length : Int) == 0) = true := by simp [h0]
  clear hw hv ho hb2 h0
  go_wp2
  go_ret
  exact ⟨rfl, HV.out.2.2⟩
 ·obtain ⟨g, rfl, hg1, hg2, hcap, hd, -⟩ := row_hands ho rfl (by omega)
  have hz : (((allR D).length : Int) == 0) = false := by rw [beq_eq_false_iff_ne]; omega
  have hpos : 0 < (allR D).length := by omega
  have hr1 : x % (allR D).length < (allR D).length := Nat.mod_lt _ hpos
  obtain ⟨n, hn⟩ : ∃ n, (allR D)[x % (allR D).length]? = some n := ⟨_, List.getElem?_eq_getElem hr1⟩
  obtain ⟨s, hs⟩ := Gr.allR_live hw n (List.mem_of_getElem? hn)
  have hnl := (hw.lt hs).1
  obtain ⟨o, e, -, c0⟩ := hd _ n hn
  cases e
  rw [Nat.zero_add] at c0
  have hperm := catP_all hw hs
  have HS : Hid (sl D n = some s /\ (catP D n 5).Nodup /\ (catP D n 5).length = (allR D).length) := ⟨hs, hperm.nodup_iff.2 (Gr.allR_nodup hw), hperm.length_eq⟩
  obtain ⟨N, hN⟩ : ∃ N, (allR D).length = N := ⟨_, rfl⟩
  rw [hN] at hz hpos hr1 c0 hcap hlen HS ⊢
  obtain ⟨W3, hW3⟩ : ∃ W3, w2.alloc (.cells #[.int .i64 11, .int .i64 5, .int .i64 2, .int .i64 8, .int .i64 7] 3) = W3 := ⟨_, rfl⟩
  have HW3 := hid hW3
  have HAX : Hid (IsC W3 w2.heap.size #[.int .i64 11, .int .i64 5, .int .i64 2, .int .i64 8, .int .i64 7] /\ Tn (fun _ => False) w2 W3) := by
   refine ⟨?_, ?_⟩
   ·rw [<- hW3]; exact isC_new _ _ _
   ·rw [<- hW3]; exact (Tn.refl _ _).alloc _
  clear hw hv ho hb2 hd hn hs hperm hW3 h0 hN
  go_wp2
  rw [HW3.out]
  have hstart : Hid (W3.ownsRow W3.heap.size 27 1 (.slice none (catP D n 0).length 0) (catP D n 0).length (hvals (catP D n 0))) := Gr.own_nil _ _ _ _
  go_loopw [9, 10] (fun q iv wr => ∃ (i : Nat) (qa : Option Addr) (qc : Nat), i <= 5 /\ iv = .int .i64 (i : Int) /\ q = .slice qa (catP D n i).length qc /\ Hid (wr.ownsRow W3.heap.size 27 1 (.slice qa (catP D n i).length qc) (catP D n i).length (hvals (catP D n i))) /\ Hid (Below W3.heap.size W3 wr)) (fun q iv _ => 5 - (intOf iv).toNat)
  case atStart => exact ⟨0, none, 0, by omega, rfl, rfl, hstart, Below.refl _ _⟩
  case round =>
   clear hstart c0
   obtain ⟨i, qa, qc, hi, rfl, rfl, hrow, hbw⟩ := hrel
   by_cases hlt : i < 5
   ·obtain ⟨k, hk⟩ : ∃ k, ksP[i]? = some k := ⟨_, List.getElem?_eq_getElem (show i < ksP.length from hlt)⟩
    obtain ⟨k1, k2, -⟩ := ksP_in hk
    have t3 : Tn (fun _ => False) W3 wr := Tn.of_below hbw.out (Nat.le_refl _)
    have hvr : View wr (fun b => ro b ≠ 0) db D := (HV.out.2.1.turn HAX.out.2.gr (fun _ _ h => h)).turn t3.gr (fun _ _ h => h)
    have cax : wr.cell? ⟨w2.heap.size, i, none⟩ = some (.int .i64 (k : Int)) := by
     rw [(HAX.out.1.tn t3 id).cell]
     match i, hk with
     | 0, hk => cases hk; rfl
     | 1, hk => cases hk; rfl
     | 2, hk => cases hk; rfl
     | 3, hk => cases hk; rfl
     | 4, hk => cases hk; rfl
     | i + 5, hk => simp [ksP] at hk
    have hal := (HAX.out.1.tn t3 id).lt
    have hst := catP_step (D := D) (n := n) hk
    have hpf : catP D n (i + 1) <+: catP D n 5 := catP_pre
    have hpl := hpf.length_le
    have HST : Hid (catP D n (i + 1) = catP D n i ++ axl D k n /\ catP D n (i + 1) <+: catP D n 5) := ⟨hst, hpf⟩
    have hll : (axl D k n).length <= 4096 /\ (catP D n i).length + (axl D k n).length <= 4096 := by
     have := HS.out.2.2
     rw [hst, List.length_append] at hpl
     omega
    have hli := listed_any wr _ db D n k s k1 k2 hvr HV.out.1 HS.out.1 (axl D k n) (fun W hW => along_parts hk HV.out.1 HS.out.1 W hW) hll.1
    have hi5 : (i : Int) < 5 := by omega
    obtain ⟨hll1, hll2⟩ := hll
    generalize hLL : axl D k n = L at *
    generalize hQQ : catP D n i = pre at *
    have hws : W3.heap.size <= wr.heap.size := hbw.out.size
    clear hst hpf hpl hvr t3 hLL hk
    go_wp2_with fail
    refine hli.mono ?_
    rintro e w4 ⟨la, lc, rfl, hlo, hb4⟩
    obtain ⟨g4, hg4, hg5⟩ := hds_own hlo
    have hrow4 := hid (Gr.own_after hrow.out hb4)
    have hg6 : L ≠ [] -> g4 < w4.heap.size := hg4.lt
    have HB4 := hid (hbw.out.trans (hb4.mono hws))
    have h44 : wr.heap.size <= w4.heap.size := hb4.size
    have hob : ∀ kk, (Value.slice qa pre.length qc).ownBlock = some kk -> kk < wr.heap.size := fun kk hkk => (Gr.own_block_lt hrow.out kk hkk).2
    have HG : Hid (L ≠ [] -> wr.heap.size <= g4 /\ g4 < w4.heap.size) := fun hn => ⟨hg5 hn, hg6 hn⟩
    have HD4 := hid hg4
    have HOB : Hid (∀ kk, (Value.slice qa pre.length qc).ownBlock = some kk -> kk < wr.heap.size \/ w4.heap.size <= kk) := fun kk hkk => .inl (hob kk hkk)
    have hrow4' : Hid (w4.ownsRow W3.heap.size 27 1 (.slice qa (pre ++ L.take 0).length qc) (pre ++ L.take 0).length (hvals (pre ++ L.take 0))) := by rw [List.take_zero, List.append_nil]; exact hrow4
    clear hli hlo hb4 hg4 hg5 hg6 hob hrow hbw hrow4 cax hal
    go_wp2
    go_loopw [9, 13] (fun q jv wz => ∃ (j : Nat) (za : Option Addr) (zc : Nat), j <= L.length /\ jv = .int .i64 (j : Int) /\ q = .slice za (pre ++ L.take j).length zc /\ Hid (wz.ownsRow W3.heap.size 27 1 (.slice za (pre ++ L.take j).length zc) (pre ++ L.take j).length (hvals (pre ++ L.take j))) /\ Hid (Below W3.heap.size W3 wz) /\ Hid (HdsAt wz g4 la L) /\ w4.heap.size <= wz.heap.size /\ Hid (∀ kk, (Value.slice za (pre ++ L.take j).length zc).ownBlock = some kk -> kk < wr.heap.size \/ w4.heap.size <= kk)) (fun q jv _ => L.length - (intOf jv).toNat)
    case atStart => exact ⟨0, qa, qc, Nat.zero_le _, rfl, by simp, hrow4', HB4, HD4, Nat.le_refl _, by rw [List.take_zero, List.append_nil]; exact HOB⟩
    case round =>
     clear hrow4' HB4 HD4 HOB
     obtain ⟨j, za, zc, hj, rfl, rfl, hrow, hbw, hdw, hsz, hob⟩ := hrel
     by_cases hjl : j < L.length
     ·obtain ⟨y, hy⟩ : ∃ y, L[j]? = some y := ⟨_, List.getElem?_eq_getElem hjl⟩
      obtain ⟨o, ha, hgl, cy⟩ := hdw.out j y hy
      subst ha
      obtain ⟨e1, e2⟩ := take_pre hy
      have hno : (pre ++ L.take j).contains y = false := by
       have hnd := HS.out.2.1
       have hpp : (pre ++ L.take j) ++ [y] <+: catP D n 5 := by
        rw [List.append_assoc, e1]
        refine List.IsPrefix.trans ?_ HST.out.2
        rw [HST.out.1]
        exact (List.prefix_append_right_inj _).2 (List.take_prefix _ _)
       have := hnd.sublist hpp.sublist
       rw [List.nodup_append] at this
       rw [Bool.eq_false_iff]
       intro hc
       exact this.2.2 y (by simpa using hc) y (by simp) rfl
      obtain ⟨gz, hgz, -⟩ := hds_own hrow.out
      have HE : Hid (pre ++ L.take (j + 1) = (pre ++ L.take j) ++ [y]) := by show _ = _; rw [List.append_assoc, e1]
      have hszl : (pre ++ L.take j).length + 1 <= 4096 := by rw [List.length_append, List.length_take]; omega
      have hin := in_any _ gz za (pre ++ L.take j) zc y hgz (by omega) false hno
      have hws : W3.heap.size <= _ := hbw.out.size
      have HL1 : Hid (L ≠ []) := by rintro rfl; simp at hjl
      clear hno hy e1 e2 hgz
      generalize hPP : pre ++ L.take j = P at *
      clear hPP
      have tok : True := trivial
      go_wp2_with fail
      refine hin.mono ?_
      rintro e w5 ⟨rfl, rfl⟩
      clear hin
      go_wp2_with (at_builtin; have _t := tok; refine Gr.wpList_app rfl _ _ rfl Tryz.underlying23 Gr.info42 rfl (by decide) W3.heap.size (.slice za P.length zc) P.length (hvals P) rfl (Gr.own_of_block hrow.out (fun k hk => Below.heap_alloc _ _ _ (Gr.own_block_lt hrow.out k hk).2)) (some ⟨w5.heap.size, 0, none⟩) 1 1 [.int .u64 (y : Int)] rfl rfl (Gr.news_new w5 #[.int .u64 (y : Int)] 27) (by simp [Value.oneCell']) (by unfold maxLen; omega) (by omega) (by simp; omega) ?_; intro v1 w0 hown1 hg1 _ hat1; clear tok _t; obtain ⟨va1, vc1, hv1⟩ := Gr.own_slice hown1; subst hv1; have HO0 : Hid (w0.ownsRow W3.heap.size 27 1 (.slice va1 (P.length + 1) vc1) (P.length + 1) (hvals (P ++ [y]))) := (by rw [Gr.hvals_append]; exact hown1); have HB0 := hid ((((hbw.out).alloc hws _).grown hg1 (by simp; omega) (fun k hk => (Gr.own_block_lt hrow.out k hk).1))); have HGR : Hid ((w5.alloc (.cells #[.int .u64 (y : Int)] 27)).grownBy w0 (Value.slice za P.length zc).ownBlock /\ ((Value.slice va1 (P.length + 1) vc1).ownBlock = (Value.slice za P.length zc).ownBlock \/ (Value.slice va1 (P.length + 1) vc1).ownBlock = some (w5.alloc (.cells #[.int .u64 (y : Int)] 27)).heap.size)) := ⟨hg1, hat1⟩; clear hown1 hg1 hat1)
      have hlp : P.length + 1 = (P ++ [y]).length := by simp
      have HD0 : Hid (HdsAt w0 g4 (some ⟨g4, o, none⟩) L) := by
       have ha : HdsAt (w5.alloc (.cells #[.int .u64 (y : Int)] 27)) g4 (some ⟨g4, o, none⟩) L := hdw.out.tn (A := fun _ => False) ((Tn.refl _ _).alloc _) (fun _ h => h)
       intro t z hz
       obtain ⟨o', e', q1, q2⟩ := ha t z hz
       refine ⟨o', e', ?_, ?_⟩
       ·exact Nat.lt_of_lt_of_le q1 HGR.out.1.size
       ·refine (World.cell?_of_block (w := w5.alloc (.cells #[.int .u64 (y : Int)] 27)) (a := ⟨g4, o' + t, none⟩) (HGR.out.1.block g4 q1 (fun e => ?_))).trans q2
        have hh := HG.out HL1.out
        rcases hob.out g4 e.symm with h | h <;> omega
      have HOB0 : Hid (∀ kk, (Value.slice va1 (P.length + 1) vc1).ownBlock = some kk -> kk < wr.heap.size \/ w4.heap.size <= kk) := fun kk hkk => by
       rcases HGR.out.2 with h | h
       ·exact hob.out kk (h ▸ hkk)
       ·rw [h] at hkk
        simp at hkk
        exact .inr (by omega)
      have hsz0 : w4.heap.size <= w0.heap.size := by have := HGR.out.1.size; simp at this; omega
      clear hob hdw HGR hbw hrow
      go_wp2
      go_roundw
      case rel => exact ⟨j + 1, va1, vc1, by omega, by go_num, by rw [HE.out, <- hlp], by rw [HE.out, <- hlp]; exact HO0, HB0, HD0, hsz0, by rw [HE.out, <- hlp]; exact HOB0⟩
      case measure => simp [intOf]; omega
     ·obtain rfl : j = L.length := by omega
      rw [List.take_length] at hrow ⊢
      have hro := hrow.out
      rw [<- HST.out.1] at hro
      have HR2 := hid hro
      have HE := hid HST.out.1.symm
      clear hro hrow hdw hob HG
      go_wp2
      go_roundw
      case rel => exact ⟨i + 1, za, zc, by omega, by go_num, by rw [HE.out], HR2, hbw⟩
      case measure => simp [intOf]; omega
   ·obtain rfl : i = 5 := by omega
    have hq : (((catP D n 5).length : Int) == (N : Int)) = true := by rw [HS.out.2.2]; simp
    have HBF := hid (HV.out.2.2.trans (((Tn.trans HAX.out.2 (Tn.of_below hbw.out (Nat.le_refl _)) (fun _ _ h => h)).below (Nat.le_refl _) (fun _ h => h.elim)).mono HV.out.2.2.size))
    clear hrow hbw
    go_wp2
    go_ret
    exact ⟨rfl, HBF.out⟩
end Go.Proofs.YtjkgjckkglfokaaGreat
