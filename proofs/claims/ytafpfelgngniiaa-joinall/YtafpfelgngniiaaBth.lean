/- The document's both: two lists in one. -/
import Derived.Test.YtafpfelgngniiaaJnb
namespace Go.Proofs.Ytafpfelgngniiaa
open Go.RowKit
set_option linter.unusedVariables false
attribute [local go_sem] Bel.cell Bel.fz

/-- All but the first of a slice of nodes. -/
theorem slice_tail {w : World} {B : Nat} {g o c : Nat} {x : Pl} {L : List Pl} (h : PlsAt w B (some ⟨g, o, none⟩) (x :: L)) (hc : L.length + 1 ≤ c) : ∃ na : Option Addr, PlsAt w B na L ∧ ∀ w, (Instr.sliceAt 22 (.slice (some ⟨g, o, none⟩) (L.length + 1) c) (some (.int .i64 1)) none none).run Try.prog w = .ok (.slice na L.length (c - 1)) w := by
  refine ⟨if c = 1 then some ⟨g, o, none⟩ else some ⟨g, o + 4, none⟩, ?_, fun w => ?_⟩
  · intro i y hy
    have hlt := (List.getElem?_eq_some_iff.1 hy).1
    rw [if_neg (by omega)]
    obtain ⟨b, o', he, h1, h2, h3, h4, h5⟩ := h (i + 1) y (by simpa using hy)
    simp only [Option.some.injEq, Addr.mk.injEq, and_true] at he
    obtain ⟨rfl, rfl⟩ := he
    have e : o + (i + 1) * 4 = o + 4 + i * 4 := by omega
    rw [e] at h2 h3 h4 h5
    exact ⟨g, o + 4, rfl, h1, h2, h3, h4, h5⟩
  · have h1 : (1 : Int) ≤ ((L.length + 1 : Nat) : Int) := by omega
    have hu : Try.prog.underlying 22 = some (.slice (Try.prog.elem 22)) := by kernel_rfl
    rw [run_sliceAt_slice w 22 _ _ _ _ hu, run_slice_l w 22 _ _ _ hu .i64 1 (by omega) h1]
    by_cases h : c = 1
    · subst h
      simp [go_sem]
    · simp [go_sem, h, Addr.add]
theorem mgR_a {A D : List Pl} {x : Pl} (h : ∀ y D', D = y :: D' → x.s.b ≤ y.s.b) : mgR (sps (x :: A)) (sps D) = x.s :: mgR (sps A) (sps D) := by
  cases D with
  | nil => simp [sps, mgR_nil]
  | cons y D => simp [sps, mgR, h y D rfl]
theorem mgR_d {A D : List Pl} {y : Pl} (h : ∀ x A', A = x :: A' → ¬ x.s.b ≤ y.s.b) : mgR (sps A) (sps (y :: D)) = y.s :: mgR (sps A) (sps D) := by
  cases A with
  | nil => simp [sps, mgR]
  | cons x A =>
    have := h x A rfl
    simp [sps, mgR, this]
/-- Under way. -/
def BoS (w : World) (A D A' D' : List Pl) (aa da : Option Addr) (L : List Sp) (oa : Option Addr) (oc : Nat) (wr : World) : Prop :=
  PlsAt w w.heap.size aa A' ∧ PlsAt w w.heap.size da D' ∧ L ++ mgR (sps A') (sps D') = mgR (sps A) (sps D) ∧ wr.ownsRow w.heap.size 39 3 (.slice oa L.length oc) L.length (spCells L) ∧ Below w.heap.size w wr
theorem BoS.bel {w : World} {A D A' D' : List Pl} {aa da : Option Addr} {L : List Sp} {oa : Option Addr} {oc : Nat} {wr : World} (h : BoS w A D A' D' aa da L oa oc wr) (u : Bel wr) : BoS w A D A' D' aa da L oa oc u.w :=
  ⟨h.1, h.2.1, h.2.2.1, own_tn h.2.2.2.1 (Tn.bel u) (fun _ _ => id), h.2.2.2.2.trans (u.h.mono h.2.2.2.2.size)⟩
theorem head_at {w wr : World} {a : Option Addr} {x : Pl} {L : List Pl} (h : PlsAt w w.heap.size a (x :: L)) (hb : Below w.heap.size w wr) : ∃ g o, a = some ⟨g, o, none⟩ ∧ g < wr.heap.size ∧ wr.cell? ⟨g, o + 1, none⟩ = some (.int .u64 x.s.b) ∧ wr.cell? ⟨g, o + 1 + 1, none⟩ = some (.int .u64 x.s.e) ∧ wr.cell? ⟨g, o + 1 + 2, none⟩ = some (.int .i64 x.s.l) := by
  obtain ⟨g, o, rfl, h1, -, h2, h3, h4⟩ := (h.below hb (Nat.le_refl _)) 0 x rfl
  have := hb.size
  refine ⟨g, o, rfl, by omega, ?_, ?_, ?_⟩
  · simpa using h2
  · simpa using h3
  · simpa using h4

set_option maxRecDepth 100000 in
set_option maxHeartbeats 2000000 in
theorem both_any (w : World) {A D : List Pl} {a d : Option Addr} {ca cd : Nat} (hA : PlsAt w w.heap.size a A) (hD : PlsAt w w.heap.size d D) (lA : A.length ≤ 8192) (lD : D.length ≤ 8192) (cA : A.length ≤ ca) (cD : D.length ≤ cd) (M : List Sp) (hM : mgR (sps A) (sps D) = M) :
    Calls Try.prog 32 #[.slice a A.length ca, .slice d D.length cd] w fun e w' => ∃ va vc, e = .returned (.slice va M.length vc) ∧ w'.ownsRow w.heap.size 39 3 (.slice va M.length vc) M.length (spCells M) ∧ Below w.heap.size w w' := by
  have H0 : Hid (BoS w A D A D a d [] (some ⟨w.heap.size, 0, none⟩) 0 (w.alloc (.cells #[] 39))) := ⟨hA, hD, by simp, own_new w 39 3, (Below.refl _ _).alloc (Nat.le_refl _) _⟩
  have HM : Hid (mgR (sps A) (sps D) = M) := hM
  clear hA hD hM
  go_enter Try.func32, Try.ntmps32
  go_wp2
  go_loopw [0, 1, 5] (fun v0 v1 v5 wr => ∃ (A' D' : List Pl) (aa da : Option Addr) (ac dc : Nat) (L : List Sp) (oa : Option Addr) (oc : Nat), v0 = .slice aa A'.length ac ∧ v1 = .slice da D'.length dc ∧ v5 = .slice oa L.length oc ∧ A'.length ≤ ac ∧ D'.length ≤ dc ∧ L.length + A'.length + D'.length ≤ 16384 ∧ Hid (BoS w A D A' D' aa da L oa oc wr)) (fun v0 v1 _ _ => (match v0 with | .slice _ n _ => n | _ => 0) + (match v1 with | .slice _ n _ => n | _ => 0))
  case atStart => exact ⟨A, D, a, d, ca, cd, [], _, 0, rfl, rfl, rfl, cA, cD, by simp; omega, H0.out⟩
  case round =>
    clear H0
    obtain ⟨A', D', aa, da, ac, dc, L, oa, oc, rfl, rfl, rfl, hac, hdc, hll, HS⟩ := hrel
    have hws := HS.out.2.2.2.2.size
    cases A' with
    | nil =>
      cases D' with
      | nil =>
        have HE : Hid (wr.ownsRow w.heap.size 39 3 (.slice oa L.length oc) L.length (spCells L) ∧ Below w.heap.size w wr ∧ L = M) := ⟨HS.out.2.2.2.1, HS.out.2.2.2.2, by have h := HS.out.2.2.1; rw [HM.out] at h; simpa [sps, mgR] using h⟩
        simp only [List.length_nil]
        go_wp2
        go_ret
        obtain rfl : L = M := HE.out.2.2
        exact ⟨oa, oc, rfl, HE.out.1, HE.out.2.1⟩
      | cons y D' =>
        obtain ⟨gd, od1, rfl, hgd, d1, d2, d3⟩ := head_at HS.out.2.1 HS.out.2.2.2.2
        obtain ⟨na, hna, hsl⟩ := slice_tail HS.out.2.1 (by simpa using hdc)
        have HNA : Hid (PlsAt w w.heap.size na D') := hna
        have HMG : Hid (mgR (sps []) (sps (y :: D')) = y.s :: mgR (sps []) (sps D')) := mgR_d (fun _ _ h => by cases h)
        have hb1 : ((D'.length : Int) + 1 == 0) = false := by simp; omega
        have hb2 : decide ((0 : Int) < (D'.length : Int) + 1) = true := by simp <;> omega
        have hb3 : (0 : Int) < (D'.length : Int) + 1 := by omega
        clear hna
        simp only [List.length_nil, List.length_cons] at *
        go_wp2_with fail
        refine wp_region_bel (by kernel_rfl) (by kernel_rfl) ?_
        intro hne
        repeat go_big_quiet_step (fail)
        refine wpQuiet_nil ?_
        rintro _ ⟨u, rfl⟩
        have HNX : Hid (∀ va vc w3, w3.ownsRow w.heap.size 39 3 (.slice va (L.length + 1) vc) (L.length + 1) (spCells L ++ spCells [y.s]) → (u.w.alloc (.cells #[.int .u64 y.s.b, .int .u64 y.s.e, .int .i64 y.s.l] 39)).grownBy w3 (Value.slice oa L.length oc).ownBlock → BoS w A D [] D' aa na (L ++ [y.s]) va vc w3) := by
          intro va vc w3 q1 q2
          have hs := HS.out.bel u
          refine ⟨hs.1, HNA.out, ?_, ?_, (hs.2.2.2.2.alloc hs.2.2.2.2.size _).grown q2 (by have := hs.2.2.2.2.size; simp; omega) (fun k hk => (own_block_lt hs.2.2.2.1 k hk).1)⟩
          · have h := hs.2.2.1
            rw [HMG.out] at h
            rw [← h]
            simp
          · rw [spCells_append, List.length_append]
            exact q1
        have HOW : Hid ((u.w.alloc (.cells #[.int .u64 y.s.b, .int .u64 y.s.e, .int .i64 y.s.l] 39)).ownsRow w.heap.size 39 3 (.slice oa L.length oc) L.length (spCells L)) := own_of_block (HS.out.bel u).2.2.2.1 (fun k hk => Below.heap_alloc _ _ _ (own_block_lt (HS.out.bel u).2.2.2.1 k hk).2)
        have huz : w.heap.size ≤ u.w.heap.size := (HS.out.bel u).2.2.2.2.size
        have tok : True := trivial
        clear HMG HNA
        go_wp2_with (at_builtin; have _t := tok; refine wpList_app (by rfl) _ _ (by rfl) Try.underlying54 info39 rfl (by decide) w.heap.size (.slice oa L.length oc) L.length (spCells L) (by rfl) HOW.out (some ⟨u.w.heap.size, 0, none⟩) 1 1 (spCells [y.s]) (by rfl) (by rfl) (one_news u.w _) (spCells_one _) (by unfold maxLen; omega) (by omega) (by simp; omega) ?_; intro v1 w3 hown1 hg1 _ hat1; obtain ⟨va, vc, hvv⟩ := own_slice hown1; subst hvv; have HN := HNX.out va vc w3 hown1 hg1; have HN2 : Hid (BoS w A D [] D' aa na (L ++ [y.s]) va vc w3) := HN; clear tok _t hown1 hg1 hat1 HN)
        go_roundw
        case rel => exact ⟨[], D', aa, na, ac, dc - 1, L ++ [y.s], va, vc, rfl, rfl, by simp, by simp, by omega, by simp at hll ⊢; omega, HN2⟩
        case measure => simp <;> omega
    | cons x A' =>
      obtain ⟨ga, oa1, rfl, hga, a1, a2, a3⟩ := head_at HS.out.1 HS.out.2.2.2.2
      have hb4 : decide ((0 : Int) < (A'.length : Int) + 1) = true := by simp <;> omega
      have hb5 : (0 : Int) < (A'.length : Int) + 1 := by omega
      cases D' with
      | nil =>
        obtain ⟨na, hna, hsl⟩ := slice_tail HS.out.1 (by simpa using hac)
        have HNA : Hid (PlsAt w w.heap.size na A') := hna
        have HMG : Hid (mgR (sps (x :: A')) (sps []) = x.s :: mgR (sps A') (sps [])) := mgR_a (fun _ _ h => by cases h)
        clear hna
        simp only [List.length_nil, List.length_cons] at *
        go_wp2_with fail
        refine wp_region_bel (by kernel_rfl) (by kernel_rfl) ?_
        intro hne
        repeat go_big_quiet_step (fail)
        refine wpQuiet_nil ?_
        rintro _ ⟨u, rfl⟩
        have HNX : Hid (∀ va vc w3, w3.ownsRow w.heap.size 39 3 (.slice va (L.length + 1) vc) (L.length + 1) (spCells L ++ spCells [x.s]) → (u.w.alloc (.cells #[.int .u64 x.s.b, .int .u64 x.s.e, .int .i64 x.s.l] 39)).grownBy w3 (Value.slice oa L.length oc).ownBlock → BoS w A D A' [] na da (L ++ [x.s]) va vc w3) := by
          intro va vc w3 q1 q2
          have hs := HS.out.bel u
          refine ⟨HNA.out, hs.2.1, ?_, ?_, (hs.2.2.2.2.alloc hs.2.2.2.2.size _).grown q2 (by have := hs.2.2.2.2.size; simp; omega) (fun k hk => (own_block_lt hs.2.2.2.1 k hk).1)⟩
          · have h := hs.2.2.1
            rw [HMG.out] at h
            rw [← h]
            simp
          · rw [spCells_append, List.length_append]
            exact q1
        have HOW : Hid ((u.w.alloc (.cells #[.int .u64 x.s.b, .int .u64 x.s.e, .int .i64 x.s.l] 39)).ownsRow w.heap.size 39 3 (.slice oa L.length oc) L.length (spCells L)) := own_of_block (HS.out.bel u).2.2.2.1 (fun k hk => Below.heap_alloc _ _ _ (own_block_lt (HS.out.bel u).2.2.2.1 k hk).2)
        have huz : w.heap.size ≤ u.w.heap.size := (HS.out.bel u).2.2.2.2.size
        have tok : True := trivial
        clear HMG HNA
        go_wp2_with (at_builtin; have _t := tok; refine wpList_app (by rfl) _ _ (by rfl) Try.underlying54 info39 rfl (by decide) w.heap.size (.slice oa L.length oc) L.length (spCells L) (by rfl) HOW.out (some ⟨u.w.heap.size, 0, none⟩) 1 1 (spCells [x.s]) (by rfl) (by rfl) (one_news u.w _) (spCells_one _) (by unfold maxLen; omega) (by omega) (by simp; omega) ?_; intro v1 w3 hown1 hg1 _ hat1; obtain ⟨va, vc, hvv⟩ := own_slice hown1; subst hvv; have HN := HNX.out va vc w3 hown1 hg1; have HN2 : Hid (BoS w A D A' [] na da (L ++ [x.s]) va vc w3) := HN; clear tok _t hown1 hg1 hat1 HN)
        go_roundw
        case rel => exact ⟨A', [], na, da, ac - 1, dc, L ++ [x.s], va, vc, rfl, rfl, by simp, by omega, by simp, by simp at hll ⊢; omega, HN2⟩
        case measure => simp <;> omega
      | cons y D' =>
        obtain ⟨gd, od1, rfl, hgd, d1, d2, d3⟩ := head_at HS.out.2.1 HS.out.2.2.2.2
        have hb1 : ((D'.length : Int) + 1 == 0) = false := by simp; omega
        have hb3 : (0 : Int) < (D'.length : Int) + 1 := by omega
        by_cases hle : x.s.b ≤ y.s.b
        · obtain ⟨na, hna, hsl⟩ := slice_tail HS.out.1 (by simpa using hac)
          have HNA : Hid (PlsAt w w.heap.size na A') := hna
          have HMG : Hid (mgR (sps (x :: A')) (sps (y :: D')) = x.s :: mgR (sps A') (sps (y :: D'))) := mgR_a (fun _ _ h => by cases h; exact hle)
          have hd3 : decide (x.s.b ≤ y.s.b) = true := by simp [hle]
          clear hna hle
          simp only [List.length_cons] at *
          go_wp2_with fail
          refine wp_region_bel (by kernel_rfl) (by kernel_rfl) ?_
          intro hne
          repeat go_big_quiet_step (fail)
          refine wpQuiet_nil ?_
          rintro _ ⟨u, rfl⟩
          have HNX : Hid (∀ va vc w3, w3.ownsRow w.heap.size 39 3 (.slice va (L.length + 1) vc) (L.length + 1) (spCells L ++ spCells [x.s]) → (u.w.alloc (.cells #[.int .u64 x.s.b, .int .u64 x.s.e, .int .i64 x.s.l] 39)).grownBy w3 (Value.slice oa L.length oc).ownBlock → BoS w A D A' (y :: D') na (some ⟨gd, od1, none⟩) (L ++ [x.s]) va vc w3) := by
            intro va vc w3 q1 q2
            have hs := HS.out.bel u
            refine ⟨HNA.out, hs.2.1, ?_, ?_, (hs.2.2.2.2.alloc hs.2.2.2.2.size _).grown q2 (by have := hs.2.2.2.2.size; simp; omega) (fun k hk => (own_block_lt hs.2.2.2.1 k hk).1)⟩
            · have h := hs.2.2.1
              rw [HMG.out] at h
              rw [← h]
              simp
            · rw [spCells_append, List.length_append]
              exact q1
          have HOW : Hid ((u.w.alloc (.cells #[.int .u64 x.s.b, .int .u64 x.s.e, .int .i64 x.s.l] 39)).ownsRow w.heap.size 39 3 (.slice oa L.length oc) L.length (spCells L)) := own_of_block (HS.out.bel u).2.2.2.1 (fun k hk => Below.heap_alloc _ _ _ (own_block_lt (HS.out.bel u).2.2.2.1 k hk).2)
          have huz : w.heap.size ≤ u.w.heap.size := (HS.out.bel u).2.2.2.2.size
          have tok : True := trivial
          clear HMG HNA
          go_wp2_with (at_builtin; have _t := tok; refine wpList_app (by rfl) _ _ (by rfl) Try.underlying54 info39 rfl (by decide) w.heap.size (.slice oa L.length oc) L.length (spCells L) (by rfl) HOW.out (some ⟨u.w.heap.size, 0, none⟩) 1 1 (spCells [x.s]) (by rfl) (by rfl) (one_news u.w _) (spCells_one _) (by unfold maxLen; omega) (by omega) (by simp; omega) ?_; intro v1 w3 hown1 hg1 _ hat1; obtain ⟨va, vc, hvv⟩ := own_slice hown1; subst hvv; have HN := HNX.out va vc w3 hown1 hg1; have HN2 : Hid (BoS w A D A' (y :: D') na (some ⟨gd, od1, none⟩) (L ++ [x.s]) va vc w3) := HN; clear tok _t hown1 hg1 hat1 HN)
          go_roundw
          case rel => exact ⟨A', (y :: D'), na, some ⟨gd, od1, none⟩, ac - 1, dc, L ++ [x.s], va, vc, rfl, rfl, by simp, by omega, by simpa using hdc, by simp at hll ⊢; omega, HN2⟩
          case measure => simp <;> omega
        · obtain ⟨na, hna, hsl⟩ := slice_tail HS.out.2.1 (by simpa using hdc)
          have HNA : Hid (PlsAt w w.heap.size na D') := hna
          have HMG : Hid (mgR (sps (x :: A')) (sps (y :: D')) = y.s :: mgR (sps (x :: A')) (sps D')) := mgR_d (fun _ _ h => by cases h; exact hle)
          have hd3 : decide (x.s.b ≤ y.s.b) = false := by simp; omega
          clear hna hle
          simp only [List.length_cons] at *
          go_wp2_with fail
          refine wp_region_bel (by kernel_rfl) (by kernel_rfl) ?_
          intro hne
          repeat go_big_quiet_step (fail)
          refine wpQuiet_nil ?_
          rintro _ ⟨u, rfl⟩
          have HNX : Hid (∀ va vc w3, w3.ownsRow w.heap.size 39 3 (.slice va (L.length + 1) vc) (L.length + 1) (spCells L ++ spCells [y.s]) → (u.w.alloc (.cells #[.int .u64 y.s.b, .int .u64 y.s.e, .int .i64 y.s.l] 39)).grownBy w3 (Value.slice oa L.length oc).ownBlock → BoS w A D (x :: A') D' (some ⟨ga, oa1, none⟩) na (L ++ [y.s]) va vc w3) := by
            intro va vc w3 q1 q2
            have hs := HS.out.bel u
            refine ⟨hs.1, HNA.out, ?_, ?_, (hs.2.2.2.2.alloc hs.2.2.2.2.size _).grown q2 (by have := hs.2.2.2.2.size; simp; omega) (fun k hk => (own_block_lt hs.2.2.2.1 k hk).1)⟩
            · have h := hs.2.2.1
              rw [HMG.out] at h
              rw [← h]
              simp
            · rw [spCells_append, List.length_append]
              exact q1
          have HOW : Hid ((u.w.alloc (.cells #[.int .u64 y.s.b, .int .u64 y.s.e, .int .i64 y.s.l] 39)).ownsRow w.heap.size 39 3 (.slice oa L.length oc) L.length (spCells L)) := own_of_block (HS.out.bel u).2.2.2.1 (fun k hk => Below.heap_alloc _ _ _ (own_block_lt (HS.out.bel u).2.2.2.1 k hk).2)
          have huz : w.heap.size ≤ u.w.heap.size := (HS.out.bel u).2.2.2.2.size
          have tok : True := trivial
          clear HMG HNA
          go_wp2_with (at_builtin; have _t := tok; refine wpList_app (by rfl) _ _ (by rfl) Try.underlying54 info39 rfl (by decide) w.heap.size (.slice oa L.length oc) L.length (spCells L) (by rfl) HOW.out (some ⟨u.w.heap.size, 0, none⟩) 1 1 (spCells [y.s]) (by rfl) (by rfl) (one_news u.w _) (spCells_one _) (by unfold maxLen; omega) (by omega) (by simp; omega) ?_; intro v1 w3 hown1 hg1 _ hat1; obtain ⟨va, vc, hvv⟩ := own_slice hown1; subst hvv; have HN := HNX.out va vc w3 hown1 hg1; have HN2 : Hid (BoS w A D (x :: A') D' (some ⟨ga, oa1, none⟩) na (L ++ [y.s]) va vc w3) := HN; clear tok _t hown1 hg1 hat1 HN)
          go_roundw
          case rel => exact ⟨(x :: A'), D', some ⟨ga, oa1, none⟩, na, ac, dc - 1, L ++ [y.s], va, vc, rfl, rfl, by simp, by simpa using hac, by omega, by simp at hll ⊢; omega, HN2⟩
          case measure => simp <;> omega

end Go.Proofs.Ytafpfelgngniiaa
