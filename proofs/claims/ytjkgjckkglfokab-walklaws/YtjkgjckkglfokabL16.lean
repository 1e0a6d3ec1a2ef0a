/- Insert of the program: too many nodes; a tree put in. -/
import Derived.Test.YtjkgjckkglfokabL15
import Derived.Test.YtjkgjckkglfokabL09
import Derived.Test.YtjkgjckkglfokabL03
import Derived.Laws.EntriesVeiled
namespace Go.Proofs.Ytjkgjckkglfokab.Gr
open Go.RowKit
set_option linter.unusedVariables false
set_option linter.unusedSimpArgs false

set_option maxRecDepth 100000 in
set_option maxHeartbeats 2000000 in
theorem ins_many (n : Nat) (w : World) (v : Array Value) (t : T n) (lo hi : Nat) (ro : Nat → Nat) (db a : Nat) (wh : Int) (D : Dc) (h : TreeAt w lo hi n v t) (hsz : hi ≤ w.heap.size) (hro : ∀ b, ro b ≠ 0 → ¬ (lo ≤ b ∧ b < hi)) (hd : PDoc w ro db D) (hw : WF D) (hal : a < 18446744073709551616) (hpl : isPlaceB wh a = true) (hcz : (chk n t 1 0).2 = 0) (hla : liveB D a = true) (hN4 : ndT n t ≤ 4096) (hfz : fitsE D (arD D wh a) (htT n t) = 0) (hmn : 4096 < cnt takenB D.S + ndT n t) :
    Calls Try.prog 21 #[.pointer (some ⟨db, 0, none⟩), .int .i64 wh, .int .u64 (a : Int), .agg v] w (InsP w ro db D 0 33) := by
  have hv := hd.view
  have hpc := fun W => isPlace_any W wh a
  have HD : Hid (PDoc w ro db D) := hd
  obtain ⟨tk, nm, aa, al, ac, tx, ka, kl, kc, rfl⟩ := h.form
  have HBX : Hid (Below w.heap.size w (w.alloc (.cells #[.int .i64 tk, .string nm, .slice aa al ac, .string tx, .slice ka kl kc] 48))) := below_new' w _
  have HBC : Hid (IsCells (w.alloc (.cells #[.int .i64 tk, .string nm, .slice aa al ac, .string tx, .slice ka kl kc] 48)) w.heap.size #[.int .i64 tk, .string nm, .slice aa al ac, .string tx, .slice ka kl kc]) := isCells_new w _ _
  have hck := fun W (hb : Below w.heap.size w W) => Check_any n W _ t lo hi (h.below hb hsz) (Nat.le_trans hsz hb.size)
  have hlv := fun W (hb : Below w.heap.size w W) => isLive_any W _ db D a (hv.below hb) hw.fits hal
  obtain ⟨o1, o2, o3⟩ := chk_ok n t 1 0 (by omega) (by omega) (by omega) hcz
  have hn1 : 1 ≤ ndT n t := by
    cases n with
    | zero => cases t
    | succ n => exact ndT_pos n t
  have hn4 : ndT n t ≤ 4096 := hN4
  obtain ⟨lv, hlv0⟩ := hw.lev
  have hlive := live_of hla
  have hwl : wh = 3 ∨ wh = 4 → ∃ t, sl D a = some t := fun h => by
    refine hlive.resolve_left (fun e => ?_)
    subst e
    rcases h with rfl | rfl <;> simp [isPlaceB] at hpl
  have hpp : arD D wh a = 0 ∨ ∃ t, sl D (arD D wh a) = some t := by
    unfold arD
    split
    · rename_i h
      obtain ⟨t, ht⟩ := hwl h
      have := (dep_par hlv0 ht).2
      simpa [par, ht] using this
    · exact hlive
  have hal' : arD D wh a < 18446744073709551616 := by
    rcases hpp with e | ⟨t, ht⟩
    · omega
    · exact (hw.lt ht).1
  have har := fun W (hb : Below w.heap.size w W) => around_any W _ db D wh a (hv.below hb) hw.fits hal hwl
  have hme := fun W (hb : Below w.heap.size w W) => measure_any n W _ t lo hi (h.below hb hsz) (Nat.le_trans hsz hb.size) o1 hn4 (by omega)
  have hfi := fun W (hb : Below w.heap.size w W) => fits_any W _ db D (arD D wh a) (htT n t) (hv.below hb) hw hpp (by omega) _ rfl
  have hfe := fun W (hb : Below w.heap.size w W) => pfree_any W _ db D (ndT n t) (hv.below hb) hw.fits hn4
  rw [hpl] at hpc
  rw [hcz] at hck
  rw [hla] at hlv
  rw [hfz] at hfi
  have hfl : ((frL D).take (ndT n t)).length < ndT n t := by
    have := frL_len hw.fits
    rw [List.length_take]
    omega
  generalize (frL D).take (ndT n t) = FL at *
  generalize arD D wh a = p at *
  generalize htT n t = ht at *
  generalize ndT n t = nd at *
  generalize hFN : FL.length = fn at *
  have hflb : (fn : Int) < (nd : Int) := by omega
  clear hd hv h hw hcz hla o1 o2 hlv0 hwl hpp hlive hmn hfz
  go_enter Try.func21, Try.ntmps21
  go_wp2_with fail
  refine (hpc _).mono ?_
  rintro e w1 ⟨rfl, rfl⟩
  clear hpc
  have hck1 := hck _ HBX.out
  clear hck
  go_wp2_with fail
  refine hck1.mono ?_
  rintro e w2 ⟨rfl, hb⟩
  have HB2 : Hid (Below w.heap.size w w2) := HBX.out.trans (hb.mono HBX.out.size)
  have HC2 : Hid (IsCells w2 w.heap.size #[.int .i64 tk, .string nm, .slice aa al ac, .string tx, .slice ka kl kc]) := HBC.out.of_block (hb.block w.heap.size (by simp))
  clear hb hck1
  have hlv2 := hlv w2 HB2.out
  clear hlv
  go_wp2_with fail
  refine hlv2.mono ?_
  rintro e w3 ⟨rfl, hb⟩
  have HB3 : Hid (Below w.heap.size w w3) := HB2.out.trans (hb.mono HB2.out.size)
  have HC3 : Hid (IsCells w3 w.heap.size #[.int .i64 tk, .string nm, .slice aa al ac, .string tx, .slice ka kl kc]) := HC2.out.of_block (hb.block w.heap.size HC2.out.lt)
  clear hb hlv2
  have har3 := har w3 HB3.out
  clear har
  go_wp2_with fail
  refine har3.mono ?_
  rintro e w4 ⟨rfl, hb⟩
  have HB4 : Hid (Below w.heap.size w w4) := HB3.out.trans (hb.mono HB3.out.size)
  have HC4 : Hid (IsCells w4 w.heap.size #[.int .i64 tk, .string nm, .slice aa al ac, .string tx, .slice ka kl kc]) := HC3.out.of_block (hb.block w.heap.size HC3.out.lt)
  clear hb har3
  have hx0 := HC4.out.cell 0
  have hx1 := HC4.out.cell 1
  have hx2 := HC4.out.cell 2
  have hx3 := HC4.out.cell 3
  have hx4 := HC4.out.cell 4
  simp at hx0 hx1 hx2 hx3 hx4
  have hme4 := hme w4 HB4.out
  clear hme
  go_wp2_with fail
  refine hme4.mono ?_
  rintro e w5 ⟨rfl, hb⟩
  have HB5 : Hid (Below w.heap.size w w5) := HB4.out.trans (hb.mono HB4.out.size)
  have HC5 : Hid (IsCells w5 w.heap.size #[.int .i64 tk, .string nm, .slice aa al ac, .string tx, .slice ka kl kc]) := HC4.out.of_block (hb.block w.heap.size HC4.out.lt)
  clear hb hme4 hx0 hx1 hx2 hx3 hx4
  have hfi5 := hfi w5 HB5.out
  clear hfi
  go_wp2_with fail
  refine hfi5.mono ?_
  rintro e w6 ⟨rfl, hb⟩
  have HB6 : Hid (Below w.heap.size w w6) := HB5.out.trans (hb.mono HB5.out.size)
  have HC6 : Hid (IsCells w6 w.heap.size #[.int .i64 tk, .string nm, .slice aa al ac, .string tx, .slice ka kl kc]) := HC5.out.of_block (hb.block w.heap.size HC5.out.lt)
  clear hb hfi5
  have hfe6 := hfe w6 HB6.out
  clear hfe
  go_wp2_with fail
  refine hfe6.mono ?_
  rintro e w7 ⟨fa, fc, rfl, hown, hb⟩
  rw [hFN]
  have HB7 : Hid (Below w.heap.size w w7) := HB6.out.trans (hb.mono HB6.out.size)
  have HC7 : Hid (IsCells w7 w.heap.size #[.int .i64 tk, .string nm, .slice aa al ac, .string tx, .slice ka kl kc]) := HC6.out.of_block (hb.block w.heap.size HC6.out.lt)
  have HB8 : Hid (Below w.heap.size w (w7.alloc (.cells #[.slice fa fn fc] 22))) := HB7.out.alloc HB7.out.size _
  clear hown hb hfe6 hFN
  go_wp2
  go_ret2
  exact insp_same HD.out HB8.out

set_option maxRecDepth 100000 in
set_option maxHeartbeats 2000000 in
theorem ins_ok (n : Nat) (w : World) (v : Array Value) (t : T n) (lo hi : Nat) (ro : Nat → Nat) (db a : Nat) (wh : Int) (D : Dc) (h : TreeAt w lo hi n v t) (hsz : hi ≤ w.heap.size) (hro : ∀ b, ro b ≠ 0 → ¬ (lo ≤ b ∧ b < hi)) (hd : PDoc w ro db D) (hw : WF D) (hal : a < 18446744073709551616) (hz : insE D wh a n t = 0) (hpl : isPlaceB wh a = true) (hcz : (chk n t 1 0).2 = 0) (hla : liveB D a = true) (hN4 : ndT n t ≤ 4096) (hfz : fitsE D (arD D wh a) (htT n t) = 0) :
    Calls Try.prog 21 #[.pointer (some ⟨db, 0, none⟩), .int .i64 wh, .int .u64 (a : Int), .agg v] w (InsP w ro db (putD (growD n t (arD D wh a) D).1 (growD n t (arD D wh a) D).2 (arD D wh a) wh a) (growD n t (arD D wh a) D).2 0) := by
  have hv := hd.view
  have hpc := fun W => isPlace_any W wh a
  have HD : Hid (PDoc w ro db D) := hd
  obtain ⟨tk, nm, aa, al, ac, tx, ka, kl, kc, rfl⟩ := h.form
  have HBX : Hid (Below w.heap.size w (w.alloc (.cells #[.int .i64 tk, .string nm, .slice aa al ac, .string tx, .slice ka kl kc] 48))) := below_new' w _
  have HBC : Hid (IsCells (w.alloc (.cells #[.int .i64 tk, .string nm, .slice aa al ac, .string tx, .slice ka kl kc] 48)) w.heap.size #[.int .i64 tk, .string nm, .slice aa al ac, .string tx, .slice ka kl kc]) := isCells_new w _ _
  have hck := fun W (hb : Below w.heap.size w W) => Check_any n W _ t lo hi (h.below hb hsz) (Nat.le_trans hsz hb.size)
  have hlv := fun W (hb : Below w.heap.size w W) => isLive_any W _ db D a (hv.below hb) hw.fits hal
  obtain ⟨o1, o2, o3⟩ := chk_ok n t 1 0 (by omega) (by omega) (by omega) hcz
  have hn1 : 1 ≤ ndT n t := by
    cases n with
    | zero => cases t
    | succ n => exact ndT_pos n t
  have hn4 : ndT n t ≤ 4096 := hN4
  obtain ⟨lv, hlv0⟩ := hw.lev
  have hlive := live_of hla
  have hwl : wh = 3 ∨ wh = 4 → ∃ t, sl D a = some t := fun h => by
    refine hlive.resolve_left (fun e => ?_)
    subst e
    rcases h with rfl | rfl <;> simp [isPlaceB] at hpl
  have hpp : arD D wh a = 0 ∨ ∃ t, sl D (arD D wh a) = some t := by
    unfold arD
    split
    · rename_i h
      obtain ⟨t, ht⟩ := hwl h
      have := (dep_par hlv0 ht).2
      simpa [par, ht] using this
    · exact hlive
  have hal' : arD D wh a < 18446744073709551616 := by
    rcases hpp with e | ⟨t, ht⟩
    · omega
    · exact (hw.lt ht).1
  have har := fun W (hb : Below w.heap.size w W) => around_any W _ db D wh a (hv.below hb) hw.fits hal hwl
  have hme := fun W (hb : Below w.heap.size w W) => measure_any n W _ t lo hi (h.below hb hsz) (Nat.le_trans hsz hb.size) o1 hn4 (by omega)
  have hfi := fun W (hb : Below w.heap.size w W) => fits_any W _ db D (arD D wh a) (htT n t) (hv.below hb) hw hpp (by omega) _ rfl
  have hfe := fun W (hb : Below w.heap.size w W) => pfree_any W _ db D (ndT n t) (hv.below hb) hw.fits hn4
  have hmk : ∀ (f : Fn) (first cap : Array Value) (w : World), (Instr.makeFunc f first cap).run Try.prog w = .ok (.func f first cap) w := fun _ _ _ _ => rfl
  obtain ⟨e1, e2, e3, e4, e5⟩ := insE_ok hz
  obtain ⟨f1, f2, f3, f4⟩ := place_facts hw e3 e1
  obtain ⟨N, hgn, sn, k1, k2⟩ := ins_grown hw hz
  rw [f3] at f1 f4 hgn k1 k2
  have HPUT := putD_same (wh := wh) (a := a) k1 k2
  have haN : a ∉ N := hgn.notin hlive
  have hpN : arD D wh a ∉ N := hgn.notin hpp
  have hslA : sl (growD n t (arD D wh a) D).1 a = sl D a := hgn.old a haN
  have hlE : lst (growD n t (arD D wh a) D).1 (arD D wh a) = lst D (arD D wh a) := hgn.lst_old hpN
  have harE : arD (growD n t (arD D wh a) D).1 wh a = arD D wh a := by
    show (if wh = 3 ∨ wh = 4 then par _ a else a) = (if wh = 3 ∨ wh = 4 then par D a else a)
    unfold par
    rw [hslA]
  have hppE : arD D wh a = 0 ∨ ∃ s, sl (growD n t (arD D wh a) D).1 (arD D wh a) = some s := hpp.imp id (fun ⟨s, hs⟩ => ⟨s, by rw [hgn.old _ hpN]; exact hs⟩)
  have hwhE : wh = 1 ∨ wh = 2 ∨ ((wh = 3 ∨ wh = 4) ∧ a ∈ lst (growD n t (arD D wh a) D).1 (arD D wh a) ∧ ∃ s, sl (growD n t (arD D wh a) D).1 a = some s) := by
    rcases f4 with h | h | ⟨h1, h2⟩
    · exact .inl h
    · exact .inr (.inl h)
    · exact .inr (.inr ⟨h1, by rw [hlE]; exact h2, by rw [hslA]; exact hwl h1⟩)
  have hllE : (lst (growD n t (arD D wh a) D).1 (arD D wh a)).length ≤ 4096 := by rw [hlE]; exact lst_len hw hpp
  have HLK : Hid (∀ W roW, PDoc W roW db (growD n t (arD D wh a) D).1 → Calls Try.prog 42 #[.pointer (some ⟨db, 0, none⟩), .int .u64 ((growD n t (arD D wh a) D).2 : Int), .int .i64 wh, .int .u64 (a : Int)] W (LinkP W roW db (putD (growD n t (arD D wh a) D).1 (growD n t (arD D wh a) D).2 (arD D wh a) wh a))) := fun W roW hW => by
    rw [HPUT]
    exact link_any W roW db _ _ a (arD D wh a) wh hW hgn.sane.fits hal hal' hppE hllE harE hwhE
  have hfl : ((frL D).take (ndT n t)).length = ndT n t := by
    have := frL_len hw.fits
    rw [List.length_take]
    omega
  have HLT : Hid (∀ b, ro b ≠ 0 → b < w.heap.size) := hv.lt
  have HGA : Hid (∀ W fb fg, Below w.heap.size w W → FrAt W fb fg ((frL D).take (ndT n t)) → w.heap.size ≤ fb → w.heap.size ≤ fg → Calls Try.prog 40 #[.pointer (some ⟨db, 0, none⟩), .agg #[.int .i64 tk, .string nm, .slice aa al ac, .string tx, .slice ka kl kc], .int .u64 (arD D wh a : Int), .func (.func 41) #[] #[.pointer (some ⟨fb, 0, none⟩)]] W (GrowP W ro db fb fg (growD n t (arD D wh a) D).1 (growD n t (arD D wh a) D).2 (((frL D).take (ndT n t)).drop (ndT n t)))) := fun W fb fg hb hf h1 h2 => by
    have hz : ∀ b, w.heap.size ≤ b → ro b = 0 := fun b hb => by
      by_cases e : ro b = 0
      · exact e
      · have := HLT.out b e
        omega
    exact grow_any n W _ t lo hi (arD D wh a) ro db fb fg (ndT n t) D (h.below hb hsz) (Nat.le_trans hsz hb.size) hro (Nat.le_trans hsz h1) (HD.out.turn (A := fun _ => False) ((Turn.refl _ _).then hb (Nat.le_refl _)) (fun _ _ => not_false)) hf (Nat.le_refl _) ⟨hz fb h1, hz fg h2⟩ hw.sane e5 hpp hal' o1
  rw [hpl] at hpc
  rw [hcz] at hck
  rw [hla] at hlv
  rw [hfz] at hfi
  generalize hFL : (frL D).take (ndT n t) = FL at *
  generalize hnd : ndT n t = nd at *
  generalize htT n t = ht at *
  generalize (growD n t (arD D wh a) D).1 = E at *
  generalize (growD n t (arD D wh a) D).2 = H at *
  generalize arD D wh a = p at *
  clear hd hv h hw hcz hla o1 o2 hlv0 hwl hpp hlive hfz hnd hFL hz e1 e2 e3 e4 e5 f1 f2 f3 f4 hgn k1 k2 HPUT haN hpN hslA hlE harE hppE hwhE hllE hro
  go_enter Try.func21, Try.ntmps21
  go_wp2_with fail
  refine (hpc _).mono ?_
  rintro e w1 ⟨rfl, rfl⟩
  clear hpc
  have hck1 := hck _ HBX.out
  clear hck
  go_wp2_with fail
  refine hck1.mono ?_
  rintro e w2 ⟨rfl, hb⟩
  have HB2 : Hid (Below w.heap.size w w2) := HBX.out.trans (hb.mono HBX.out.size)
  have HC2 : Hid (IsCells w2 w.heap.size #[.int .i64 tk, .string nm, .slice aa al ac, .string tx, .slice ka kl kc]) := HBC.out.of_block (hb.block w.heap.size (by simp))
  clear hb hck1
  have hlv2 := hlv w2 HB2.out
  clear hlv
  go_wp2_with fail
  refine hlv2.mono ?_
  rintro e w3 ⟨rfl, hb⟩
  have HB3 : Hid (Below w.heap.size w w3) := HB2.out.trans (hb.mono HB2.out.size)
  have HC3 : Hid (IsCells w3 w.heap.size #[.int .i64 tk, .string nm, .slice aa al ac, .string tx, .slice ka kl kc]) := HC2.out.of_block (hb.block w.heap.size HC2.out.lt)
  clear hb hlv2
  have har3 := har w3 HB3.out
  clear har
  go_wp2_with fail
  refine har3.mono ?_
  rintro e w4 ⟨rfl, hb⟩
  have HB4 : Hid (Below w.heap.size w w4) := HB3.out.trans (hb.mono HB3.out.size)
  have HC4 : Hid (IsCells w4 w.heap.size #[.int .i64 tk, .string nm, .slice aa al ac, .string tx, .slice ka kl kc]) := HC3.out.of_block (hb.block w.heap.size HC3.out.lt)
  clear hb har3
  have hx0 := HC4.out.cell 0
  have hx1 := HC4.out.cell 1
  have hx2 := HC4.out.cell 2
  have hx3 := HC4.out.cell 3
  have hx4 := HC4.out.cell 4
  simp at hx0 hx1 hx2 hx3 hx4
  have hme4 := hme w4 HB4.out
  clear hme
  go_wp2_with fail
  refine hme4.mono ?_
  rintro e w5 ⟨rfl, hb⟩
  have HB5 : Hid (Below w.heap.size w w5) := HB4.out.trans (hb.mono HB4.out.size)
  have HC5 : Hid (IsCells w5 w.heap.size #[.int .i64 tk, .string nm, .slice aa al ac, .string tx, .slice ka kl kc]) := HC4.out.of_block (hb.block w.heap.size HC4.out.lt)
  clear hb hme4 hx0 hx1 hx2 hx3 hx4
  have hfi5 := hfi w5 HB5.out
  clear hfi
  go_wp2_with fail
  refine hfi5.mono ?_
  rintro e w6 ⟨rfl, hb⟩
  have HB6 : Hid (Below w.heap.size w w6) := HB5.out.trans (hb.mono HB5.out.size)
  have HC6 : Hid (IsCells w6 w.heap.size #[.int .i64 tk, .string nm, .slice aa al ac, .string tx, .slice ka kl kc]) := HC5.out.of_block (hb.block w.heap.size HC5.out.lt)
  clear hb hfi5
  have hfe6 := hfe w6 HB6.out
  clear hfe
  go_wp2_with fail
  refine hfe6.mono ?_
  rintro e w7 ⟨fa, fc, rfl, hown, hb⟩
  have HB7 : Hid (Below w.heap.size w w7) := HB6.out.trans (hb.mono HB6.out.size)
  have HC7 : Hid (IsCells w7 w.heap.size #[.int .i64 tk, .string nm, .slice aa al ac, .string tx, .slice ka kl kc]) := HC6.out.of_block (hb.block w.heap.size HC6.out.lt)
  obtain ⟨fg, hfa, hfg⟩ : ∃ fg, fa = some ⟨fg, 0, none⟩ ∧ w6.heap.size ≤ fg ∧ fg < w7.heap.size ∧ nd ≤ fc ∧ ∀ (j x : Nat), FL[j]? = some x → w7.cell? ⟨fg, 0 + j, none⟩ = some (.int .i64 (x : Int)) := by
    obtain ⟨r1, r2, r3⟩ := row_cell hown
    obtain ⟨x0, hx0⟩ : ∃ x, FL[0]? = some x := ⟨_, List.getElem?_eq_getElem (by omega)⟩
    obtain ⟨g0, q1, q2, q3, q4⟩ := r3 0 (.int .i64 (x0 : Int)) (by simp [ivals, hx0])
    refine ⟨g0, q1, q2, q3, by omega, fun j x hx => ?_⟩
    obtain ⟨g1, q1', _, _, q4'⟩ := r3 j (.int .i64 (x : Int)) (by simp [ivals, hx])
    rw [q1] at q1'
    cases q1'
    rw [Nat.zero_add]
    exact q4'
  subst hfa
  rw [hfl]
  have hs67 := hb.size
  have hs6 := HB6.out.size
  have HFA : Hid (FrAt (w7.alloc (.cells #[.slice (some ⟨fg, 0, none⟩) nd fc] 22)) w7.heap.size fg FL) := by
    refine ⟨⟨0, fc, ?_, by rw [hfl]; exact hfg.2.2.1, fun j x hx => ?_⟩, by omega, by simp; omega⟩
    · rw [hfl]
      exact isCells_new w7 _ 22
    · exact (World.cell?_of_block (w := w7) (a := ⟨fg, 0 + j, none⟩) (Below.heap_alloc _ _ _ hfg.2.1)).trans (hfg.2.2.2 j x hx)
  have HB8 : Hid (Below w.heap.size w (w7.alloc (.cells #[.slice (some ⟨fg, 0, none⟩) nd fc] 22))) := HB7.out.alloc HB7.out.size _
  have HC8 : Hid (IsCells (w7.alloc (.cells #[.slice (some ⟨fg, 0, none⟩) nd fc] 22)) w.heap.size #[.int .i64 tk, .string nm, .slice aa al ac, .string tx, .slice ka kl kc]) := HC7.out.alloc _
  have hga := HGA.out _ _ _ HB8.out HFA.out (by omega) (by omega)
  have hx0 := HC7.out.cell 0
  have hx1 := HC7.out.cell 1
  have hx2 := HC7.out.cell 2
  have hx3 := HC7.out.cell 3
  have hx4 := HC7.out.cell 4
  simp at hx0 hx1 hx2 hx3 hx4
  have hwl7 : w.heap.size < w7.heap.size := HC7.out.lt
  have hnn : ¬ (nd : Int) < (nd : Int) := by omega
  clear hown hb hfe6 hfg HFA HGA
  go_wp2_with fail
  refine hga.mono ?_
  rintro e w9 ⟨rfl, ro9, hp9⟩
  have hlk := HLK.out w9 ro9 hp9.doc
  have HP9 : Hid (PG (w7.alloc (.cells #[.slice (some ⟨fg, 0, none⟩) nd fc] 22)) ro db w7.heap.size fg E _ w9 ro9) := hp9
  clear hga hp9 HLK hx0 hx1 hx2 hx3 hx4
  go_wp2_with fail
  refine hlk.mono ?_
  rintro e w10 ⟨rfl, ht, ro10, hd10, hf10⟩
  have HFIN : Hid (Turn (fun b => ro b ≠ 0) w w10 ∧ ∃ ro', PDoc w10 ro' db (putD E H p wh a) ∧ ∀ b, ro' b ≠ 0 → ro b ≠ 0 ∨ w.heap.size ≤ b) := by
    have h8 := HB8.out
    have h9 := HP9.out
    have hs8 := h8.size
    refine ⟨⟨ht.os.trans (h9.turn.os.trans h8.os), ht.tape.trans (h9.turn.tape.trans h8.tape), ht.output.trans (h9.turn.output.trans h8.output), Nat.le_trans hs8 (Nat.le_trans h9.turn.size ht.size), fun b hb hn => ?_⟩, ro10, hd10, fun b hb => ?_⟩
    · rw [ht.block b (by have := h9.turn.size; omega) (fun e => ?_), h9.turn.block b (by omega) (fun e => ?_), h8.block b hb]
      · rcases e with e | e
        · exact hn e
        · omega
      · rcases h9.from' b e with h1 | h1
        · exact hn h1
        · omega
    · rcases hf10 b hb with h1 | h1
      · rcases h9.from' b h1 with h2 | h2
        · exact .inl h2
        · exact .inr (by omega)
      · exact .inr (by have := h9.turn.size; omega)
  clear ht hd10 hf10 hlk
  go_wp2
  go_ret2
  exact ⟨rfl, HFIN.out⟩

theorem pins_any (n : Nat) (w : World) (v : Array Value) (t : T n) (lo hi : Nat) (ro : Nat → Nat) (db a : Nat) (wh : Int) (D : Dc) (h : TreeAt w lo hi n v t) (hsz : hi ≤ w.heap.size) (hro : ∀ b, ro b ≠ 0 → ¬ (lo ≤ b ∧ b < hi)) (hd : PDoc w ro db D) (hw : WF D) (hal : a < 18446744073709551616) :
    Calls Try.prog 21 #[.pointer (some ⟨db, 0, none⟩), .int .i64 wh, .int .u64 (a : Int), .agg v] w (InsP w ro db (insD D wh a n t).1 (insD D wh a n t).2 (insE D wh a n t)) := by
  have hbad : insE D wh a n t ≠ 0 → insD D wh a n t = (D, 0) := fun h => by unfold insD; rw [if_neg h]
  cases hpl : isPlaceB wh a with
  | false =>
    have e : insE D wh a n t = 1 := by unfold insE; rw [if_pos hpl]
    rw [hbad (by rw [e]; decide), e]
    exact ins_place n w v t lo hi ro db a wh D h hsz hro hd hw hal hpl
  | true =>
    by_cases hcz : (chk n t 1 0).2 = 0
    · have e := insE_eq hw (a := a) (wh := wh) hpl hcz
      have o := chk_ok n t 1 0 (by omega) (by omega) (by omega) hcz
      have hN4 : ndT n t ≤ 4096 := by
        have := chk_le n t 1 0 (by omega)
        omega
      cases hla : liveB D a with
      | false =>
        rw [if_pos hla] at e
        rw [hbad (by rw [e]; decide), e]
        exact ins_live n w v t lo hi ro db a wh D h hsz hro hd hw hal hpl hcz hla
      | true =>
        rw [if_neg (by simp [hla])] at e
        by_cases hfz : fitsE D (arD D wh a) (htT n t) = 0
        · rw [if_neg (by simp [hfz])] at e
          by_cases hmn : 4096 < cnt takenB D.S + ndT n t
          · rw [if_pos hmn] at e
            rw [hbad (by rw [e]; decide), e]
            exact ins_many n w v t lo hi ro db a wh D h hsz hro hd hw hal hpl hcz hla hN4 hfz hmn
          · rw [if_neg hmn] at e
            have hz := e
            have f3 := (place_facts hw (insE_ok e).2.2.1 hpl).2.2.1
            have ei : insD D wh a n t = (putD (growD n t (arD D wh a) D).1 (growD n t (arD D wh a) D).2 (arD D wh a) wh a, (growD n t (arD D wh a) D).2) := by
              unfold insD
              rw [if_pos e, f3]
            rw [ei, e]
            exact ins_ok n w v t lo hi ro db a wh D h hsz hro hd hw hal hz hpl hcz hla hN4 hfz
        · rw [if_pos (by simpa using hfz)] at e
          rw [hbad (by rw [e]; exact hfz), e]
          exact ins_fits n w v t lo hi ro db a wh D h hsz hro hd hw hal hpl hcz hla hN4 hfz
    · have e : insE D wh a n t = (chk n t 1 0).2 := by unfold insE; rw [if_neg (by simp [hpl]), if_pos hcz]
      rw [hbad (by rw [e]; exact hcz), e]
      exact ins_check n w v t lo hi ro db a wh D h hsz hro hd hw hal hpl hcz

end Go.Proofs.Ytjkgjckkglfokab.Gr

/- The document's first example: lives. -/
namespace Go.Proofs.Ytjkgjckkglfokab
open Go.RowKit Go.Shelf
open Gr (Dc Sl View WF sl par hvals allR idxH T Nd TreeAt insE insD PDoc lst)
set_option linter.unusedVariables false
set_option linter.unusedSimpArgs false
attribute [local go_sem] Oper.semAt_some

def D0 : Dc := ⟨[], []⟩
theorem sl_D0 (h : Nat) : sl D0 h = none := by
  cases e : sl D0 h with
  | none => rfl
  | some s =>
    obtain ⟨i, -, h2, -⟩ := Gr.sl_live e
    simp [D0] at h2
theorem lst_D0 (p : Nat) : lst D0 p = [] := by
  by_cases h : p = 0
  · subst h; rfl
  · simp [lst, h, sl_D0]
theorem wf_D0 : WF D0 := by
  refine ⟨⟨by simp [D0], fun i s h => by simp [D0] at h⟩, fun i s h => by simp [D0] at h, fun i s h => by simp [D0] at h, fun i s h => by simp [D0] at h, fun i s h => by simp [D0] at h, ⟨fun _ => 0, fun h s e => (by rw [sl_D0] at e; cases e)⟩, fun h s e => (by rw [sl_D0] at e; cases e), fun p _ h hh => (by rw [lst_D0] at hh; cases hh), fun p => (by rw [lst_D0]; exact List.nodup_nil)⟩
theorem pdoc_new (w : World) : PDoc (w.alloc (.cells #[.slice none 0 0, .slice none 0 0, .int .i64 0] 44)) (fun b => if b = w.heap.size then 1 else 0) w.heap.size D0 :=
  ⟨none, 0, none, 0, [], Gr.isCells_new w _ _, Gr.own_nil _ _ _ _, Gr.own_nil _ _ _ _, rfl, fun i s p h => by simp [D0] at h, by simp, fun b h => by simp [Value.ownBlock] at h, fun b h => by simp [Value.ownBlock] at h, fun i p b h => by simp at h, fun i p b h => by simp at h, fun b hb => by
    by_cases e : b = w.heap.size
    · subst e; simp
    · simp [e] at hb⟩

/-- The example's tree. -/
def nod {n : Nat} (c : UInt8) (ks : List (T n)) : T (n + 1) := ({ kind := 1, name := ⟨#[c]⟩, attrs := [], text := ⟨#[]⟩, kids := ks } : Nd (T n))
def tA : T 3 := nod 97 [nod 98 [], nod 99 [nod 100 []], nod 101 []]
def D1 : Dc := (insD D0 2 0 3 tA).1
theorem d1_ins : insE D0 2 0 3 tA = 0 := by kernel_rfl
theorem d1_h : (insD D0 2 0 3 tA).2 = 4294967297 := by kernel_rfl
theorem d1_all : allR D1 = [4294967297, 4294967298, 4294967299, 4294967300, 4294967301] := by kernel_rfl
theorem d1_sl : (sl D1 4294967301).isSome = true := by kernel_rfl
theorem d1_ahead : ahead D1 4294967301 4 = [4294967300, 4294967299, 4294967298] := by kernel_rfl
theorem wf_D1 : WF D1 := wf_D0.insD 2 0 3 tA

/-- The cells of a node without attributes. -/
def nv (c : UInt8) (k : Value) : Array Value := #[.int .i64 1, .string ⟨#[c]⟩, .slice none 0 0, .string ⟨#[]⟩, k]
theorem nod_at {w : World} {lo hi n : Nat} (c : UInt8) : TreeAt w lo hi (n + 1) (nv c (.slice none 0 0)) (nod c []) :=
  ⟨none, 0, none, 0, rfl, Nat.zero_le _, Nat.zero_le _, Nat.le_refl _, Nat.le_refl _, fun i p h => by simp [nod] at h, fun i k h => by simp [nod] at h⟩

set_option maxRecDepth 100000 in
theorem leaf_any (w : World) (s : ByteArray) (a : Option Addr) (n c : Nat) : Calls Try.prog 20 #[.string s, .slice a n c] w fun e w' => e = .returned (.agg #[.int .i64 1, .string s, .slice none 0 0, .string ⟨#[]⟩, .slice a n c]) ∧ Below w.heap.size w w' := by
  go_enter Try.func20, Try.ntmps20
  go_wp2
  have hc := Gr.isCells_new w #[.int .i64 1, .string s, .slice none 0 0, .string ⟨#[]⟩, .slice a n c] 48
  have r0 := hc.cell 0
  have r1 := hc.cell 1
  have r2 := hc.cell 2
  have r3 := hc.cell 3
  have r4 := hc.cell 4
  simp only [List.getElem?_toArray, List.getElem?_cons_zero, List.getElem?_cons_succ] at r0 r1 r2 r3 r4
  exact bodyPost_ret (v := .agg #[.int .i64 1, .string s, .slice none 0 0, .string ⟨#[]⟩, .slice a n c]) (by simp [results, Try.results20, go_sem, r0, r1, r2, r3, r4]) rfl ⟨rfl, (Below.refl _ _).alloc (Nat.le_refl _) _⟩

/-- A node with children that lie one behind the other in a block of their own. -/
theorem nod_kids {w : World} {lo hi n g : Nat} {c : UInt8} {ks : List (T n)} {vs : List (Array Value)} {cap : Nat} (hv : vs.length = ks.length) (hs : ∀ v ∈ vs, v.size = 5) (hg : Gr.IsCells w g (vs.flatMap (·.toList)).toArray) (h1 : lo ≤ g) (h2 : g < hi) (hl : ks.length ≤ 1000) (hc : ks.length ≤ cap)
    (hk : ∀ (i : Nat) (v : Array Value) (k : T n), vs[i]? = some v → ks[i]? = some k → TreeAt w lo hi n v k) : TreeAt w lo hi (n + 1) (nv c (.slice (some ⟨g, 0, none⟩) ks.length cap)) (nod c ks) := by
  refine ⟨none, 0, some ⟨g, 0, none⟩, cap, rfl, Nat.zero_le _, by show ks.length ≤ _; unfold Gr.maxK; omega, Nat.le_refl _, hc, fun i p h => by simp [nod] at h, fun i k hik => ?_⟩
  have hik' : ks[i]? = some k := hik
  have hi : i < ks.length := (List.getElem?_eq_some_iff.1 hik').1
  have hvi : vs[i]? = some vs[i] := List.getElem?_eq_getElem (by omega)
  refine ⟨g, 0, vs[i], rfl, h1, h2, hs _ (List.getElem_mem _), fun j hj => ?_, hk i _ k hvi hik'⟩
  rw [hg.cell]
  have key : ∀ (l : List (Array Value)) (m : Nat) (u : Array Value), (∀ v ∈ l, v.size = 5) → l[m]? = some u → (l.flatMap (·.toList))[m * 5 + j]? = u[j]? := by
    intro l
    induction l with
    | nil => intro m u _ h; simp at h
    | cons a r ih =>
      intro m u hs h
      have ha : a.toList.length = 5 := by simpa using hs a (List.mem_cons_self ..)
      rw [List.flatMap_cons]
      cases m with
      | zero =>
        simp only [List.getElem?_cons_zero, Option.some.injEq] at h
        subst h
        rw [Nat.zero_mul, Nat.zero_add, List.getElem?_append_left (by omega)]
        simp
      | succ m =>
        rw [List.getElem?_append_right (by omega), ha, show (m + 1) * 5 + j - 5 = m * 5 + j by omega]
        exact ih m u (fun v hv => hs v (List.mem_cons_of_mem _ hv)) (by simpa using h)
  have := key vs i vs[i] hs hvi
  simpa using this

set_option maxRecDepth 100000 in
set_option maxHeartbeats 2000000 in
theorem lives_any (w : World) : Calls Try.prog 4 #[] w fun e w' => e = .returned (.bool true) ∧ Below w.heap.size w w' := by
  obtain ⟨w1, hw1⟩ : ∃ w1, w.alloc (.cells #[.slice none 0 0, .slice none 0 0, .int .i64 0] 44) = w1 := ⟨_, rfl⟩
  have HW1 : Hid (w.alloc (.cells #[.slice none 0 0, .slice none 0 0, .int .i64 0] 44) = w1) := hw1
  have hp := pdoc_new w
  rw [hw1] at hp
  have HP : Hid (PDoc w1 (fun b => if b = w.heap.size then 1 else 0) w.heap.size D0) := hp
  have hs1 : w1.heap.size = w.heap.size + 1 := by rw [← hw1]; simp
  have HS1 : Hid (w1.heap.size = w.heap.size + 1) := hs1
  have HB1 : Hid (Below w.heap.size w w1) := by show Below _ _ _; rw [← hw1]; exact (Below.refl _ _).alloc (Nat.le_refl _) _
  clear hw1 hp hs1
  go_enter Try.func4, Try.ntmps4
  go_wp2_with fail
  rw [HW1.out]
  refine Calls.mono (leaf_any w1 ⟨#[98]⟩ none 0 0) ?_
  rintro e w2 ⟨rfl, hb2⟩
  have HB2 : Hid (Below w1.heap.size w1 w2) := hb2
  clear hb2
  go_wp2_with fail
  refine Calls.mono (leaf_any w2 ⟨#[100]⟩ none 0 0) ?_
  rintro e w3 ⟨rfl, hb3⟩
  have HB3 : Hid (Below w2.heap.size w2 w3) := hb3
  clear hb3
  obtain ⟨w4, hw4⟩ : ∃ w4, w3.alloc (.cells #[.int .i64 1, .string ⟨#[100]⟩, .slice none 0 0, .string ⟨#[]⟩, .slice none 0 0] 48) = w4 := ⟨_, rfl⟩
  have HW4 : Hid (w3.alloc (.cells #[.int .i64 1, .string ⟨#[100]⟩, .slice none 0 0, .string ⟨#[]⟩, .slice none 0 0] 48) = w4) := hw4
  have HC4 : Hid (Gr.IsCells w4 w3.heap.size (nv 100 (.slice none 0 0)) ∧ Below w3.heap.size w3 w4 ∧ w3.heap.size < w4.heap.size) := by
    have hh := Gr.isCells_new w3 (nv 100 (.slice none 0 0)) 48
    unfold nv at hh ⊢
    rw [hw4] at hh
    exact ⟨hh, by rw [← hw4]; exact (Below.refl _ _).alloc (Nat.le_refl _) _, hh.lt⟩
  clear hw4
  go_wp2_with fail
  rw [HW4.out]
  refine Calls.mono (leaf_any w4 ⟨#[99]⟩ (some ⟨w3.heap.size, 0, none⟩) 1 1) ?_
  rintro e w5 ⟨rfl, hb5⟩
  have HB5 : Hid (Below w4.heap.size w4 w5) := hb5
  clear hb5
  go_wp2_with fail
  refine Calls.mono (leaf_any w5 ⟨#[101]⟩ none 0 0) ?_
  rintro e w6 ⟨rfl, hb6⟩
  have HB6 : Hid (Below w5.heap.size w5 w6) := hb6
  clear hb6
  obtain ⟨w7, hw7⟩ : ∃ w7, w6.alloc (.cells #[.int .i64 1, .string ⟨#[98]⟩, .slice none 0 0, .string ⟨#[]⟩, .slice none 0 0, .int .i64 1, .string ⟨#[99]⟩, .slice none 0 0, .string ⟨#[]⟩, .slice (some ⟨w3.heap.size, 0, none⟩) 1 1, .int .i64 1, .string ⟨#[101]⟩, .slice none 0 0, .string ⟨#[]⟩, .slice none 0 0] 48) = w7 := ⟨_, rfl⟩
  have HW7 : Hid (w6.alloc (.cells #[.int .i64 1, .string ⟨#[98]⟩, .slice none 0 0, .string ⟨#[]⟩, .slice none 0 0, .int .i64 1, .string ⟨#[99]⟩, .slice none 0 0, .string ⟨#[]⟩, .slice (some ⟨w3.heap.size, 0, none⟩) 1 1, .int .i64 1, .string ⟨#[101]⟩, .slice none 0 0, .string ⟨#[]⟩, .slice none 0 0] 48) = w7) := hw7
  have HC7 : Hid (Gr.IsCells w7 w6.heap.size ([nv 98 (.slice none 0 0), nv 99 (.slice (some ⟨w3.heap.size, 0, none⟩) 1 1), nv 101 (.slice none 0 0)].flatMap (·.toList)).toArray ∧ Below w6.heap.size w6 w7 ∧ w6.heap.size < w7.heap.size) := by
    have hh := Gr.isCells_new w6 #[.int .i64 1, .string ⟨#[98]⟩, .slice none 0 0, .string ⟨#[]⟩, .slice none 0 0, .int .i64 1, .string ⟨#[99]⟩, .slice none 0 0, .string ⟨#[]⟩, .slice (some ⟨w3.heap.size, 0, none⟩) 1 1, .int .i64 1, .string ⟨#[101]⟩, .slice none 0 0, .string ⟨#[]⟩, .slice none 0 0] 48
    rw [hw7] at hh
    exact ⟨hh, by rw [← hw7]; exact (Below.refl _ _).alloc (Nat.le_refl _) _, hh.lt⟩
  clear hw7
  go_wp2_with fail
  rw [HW7.out]
  refine Calls.mono (leaf_any w7 ⟨#[97]⟩ (some ⟨w6.heap.size, 0, none⟩) 3 3) ?_
  rintro e w8 ⟨rfl, hb8⟩
  have b48 : Below w4.heap.size w4 w8 := by
    have h1 := HB5.out.trans (HB6.out.mono HB5.out.size)
    have h2 := h1.trans (HC7.out.2.1.mono h1.size)
    exact h2.trans (hb8.mono h2.size)
  have b78 : Below w7.heap.size w7 w8 := hb8
  have b18 : Below w1.heap.size w1 w8 := by
    have h1 := HB2.out.trans (HB3.out.mono HB2.out.size)
    have h2 := h1.trans (HC4.out.2.1.mono h1.size)
    exact h2.trans (b48.mono h2.size)
  have hz3 : w1.heap.size ≤ w3.heap.size := Nat.le_trans HB2.out.size HB3.out.size
  have hz4 : w3.heap.size < w4.heap.size := HC4.out.2.2
  have hz6 : w4.heap.size ≤ w6.heap.size := Nat.le_trans HB5.out.size HB6.out.size
  have hz7 : w6.heap.size < w7.heap.size := HC7.out.2.2
  have hz8 : w7.heap.size ≤ w8.heap.size := b78.size
  have k3 : Gr.IsCells w8 w3.heap.size (nv 100 (.slice none 0 0)) := HC4.out.1.of_block (b48.block _ hz4)
  have k6 : Gr.IsCells w8 w6.heap.size ([nv 98 (.slice none 0 0), nv 99 (.slice (some ⟨w3.heap.size, 0, none⟩) 1 1), nv 101 (.slice none 0 0)].flatMap (·.toList)).toArray := HC7.out.1.of_block (b78.block _ hz7)
  have htree : TreeAt w8 w1.heap.size w8.heap.size 3 (nv 97 (.slice (some ⟨w6.heap.size, 0, none⟩) 3 3)) tA := by
    refine nod_kids (ks := [nod 98 [], nod 99 [nod 100 []], nod 101 []]) (vs := [nv 98 (.slice none 0 0), nv 99 (.slice (some ⟨w3.heap.size, 0, none⟩) 1 1), nv 101 (.slice none 0 0)]) rfl (by simp [nv]) k6 (by omega) (by omega) (by simp) (Nat.le_refl _) ?_
    intro i v k hv hk
    match i, hv, hk with
    | 0, hv, hk =>
      cases hv; cases hk
      exact nod_at 98
    | 1, hv, hk =>
      cases hv; cases hk
      refine nod_kids (ks := [nod 100 []]) (vs := [nv 100 (.slice none 0 0)]) rfl (by simp [nv]) (by simpa using k3) (by omega) (by omega) (by simp) (Nat.le_refl _) ?_
      intro i v k hv hk
      match i, hv, hk with
      | 0, hv, hk =>
        cases hv; cases hk
        exact nod_at 100
      | i + 1, hv, hk => simp at hv
    | 2, hv, hk =>
      cases hv; cases hk
      exact nod_at 101
    | i + 3, hv, hk => simp at hv
  have hins := Gr.pins_any 3 w8 _ tA w1.heap.size w8.heap.size (fun b => if b = w.heap.size then 1 else 0) w.heap.size 0 2 D0 htree (Nat.le_refl _) (fun b hb h => by
    have hs := HS1.out
    by_cases e : b = w.heap.size
    · omega
    · simp [e] at hb) (HP.out.turn (A := fun _ => False) ⟨b18.os, b18.tape, b18.output, b18.size, fun k hk _ => b18.block k hk⟩ (fun _ _ h => h)) wf_D0 (by decide)
  rw [d1_h, d1_ins] at hins
  have HB8 : Hid (Below w.heap.size w w8) := HB1.out.trans (b18.mono HB1.out.size)
  clear b48 b78 b18 hz3 hz4 hz6 hz7 hz8 k3 k6 htree hb8
  unfold nv at hins
  go_wp2_with fail
  refine Calls.mono hins ?_
  rintro e w9 ⟨rfl, ht9, ro', hd9, -⟩
  have hv9 : View w9 (fun b => ro' b ≠ 0) w.heap.size D1 := hd9.view
  have HB9 : Hid (Below w.heap.size w w9) := HB8.out.trans (ht9.below (B := w.heap.size) HB8.out.size (fun k hk => by
    by_cases e : k = w.heap.size
    · omega
    · simp [e] at hk))
  obtain ⟨h1, g1⟩ : ∃ h : Nat, h = 4294967297 := ⟨_, rfl⟩
  obtain ⟨h2, g2⟩ : ∃ h : Nat, h = 4294967298 := ⟨_, rfl⟩
  obtain ⟨h3, g3⟩ : ∃ h : Nat, h = 4294967299 := ⟨_, rfl⟩
  obtain ⟨h4, g4⟩ : ∃ h : Nat, h = 4294967300 := ⟨_, rfl⟩
  obtain ⟨h5, g5⟩ : ∃ h : Nat, h = 4294967301 := ⟨_, rfl⟩
  have eall : allR D1 = [h1, h2, h3, h4, h5] := by rw [d1_all, g1, g2, g3, g4, g5]
  have eah : ahead D1 h5 4 = [h4, h3, h2] := by rw [g5, d1_ahead, g2, g3, g4]
  have eix : idxH (allR D1) h5 = ((4 : Nat) : Int) := by rw [d1_all, g5]; decide
  obtain ⟨s5, es5⟩ : ∃ s, sl D1 h5 = some s := by rw [g5]; exact Option.isSome_iff_exists.1 d1_sl
  clear g1 g2 g3 g4 g5
  have hal := Gr.pall_zero w9 _ w.heap.size D1 hv9 wf_D1
  unfold Gr.AllP at hal
  rw [eall] at hal
  simp only [List.length_cons, List.length_nil, Nat.reduceAdd] at hal
  have HV9 : Hid (View w9 (fun b => ro' b ≠ 0) w.heap.size D1 ∧ allR D1 = [h1, h2, h3, h4, h5] ∧ ahead D1 h5 4 = [h4, h3, h2] ∧ idxH (allR D1) h5 = ((4 : Nat) : Int) ∧ sl D1 h5 = some s5) := ⟨hv9, eall, eah, eix, es5⟩
  clear ht9 hd9 hv9 hins eall eah eix es5
  go_wp2_with fail
  refine Calls.mono hal ?_
  rintro e w10 ⟨a, cap, rfl, ho, hb10⟩
  obtain ⟨g, rfl, hg1, hg2, hcap, hd, -⟩ := row_hands (L := [h1, h2, h3, h4, h5]) (n := 5) ho rfl (by decide)
  have hc : ∀ (i x : Nat), [h1, h2, h3, h4, h5][i]? = some x → w10.cell? ⟨g, i, none⟩ = some (.int .u64 (x : Int)) := fun i x hx => by
    obtain ⟨o, e, -, q⟩ := hd i x hx
    cases e
    rw [Nat.zero_add] at q
    exact q
  have c1 := hc 1 h2 rfl
  have c2 := hc 2 h3 rfl
  have c3 := hc 3 h4 rfl
  have c4 := hc 4 h5 rfl
  have hv10 := HV9.out.1.below hb10
  have HB10 : Hid (Below w.heap.size w w10) := HB9.out.trans (hb10.mono HB9.out.size)
  have hax := mk_axis w10 _ w.heap.size D1 h5 s5 hv10 wf_D1 HV9.out.2.2.2.2
  have HV10 : Hid (View w10 (fun b => ro' b ≠ 0) w.heap.size D1) := hv10
  clear ho hb10 hd hc hv10 hal
  go_wp2_with fail
  refine Calls.mono hax ?_
  rintro e w11 ⟨rfl, t11, y0, y1, y2⟩
  have d1 : w11.cell? ⟨g, 1, none⟩ = some (.int .u64 (h2 : Int)) := (World.cell?_of_block (w := w10) (a := ⟨g, 1, none⟩) (t11.block g hg2 id)).trans c1
  have d2 : w11.cell? ⟨g, 2, none⟩ = some (.int .u64 (h3 : Int)) := (World.cell?_of_block (w := w10) (a := ⟨g, 2, none⟩) (t11.block g hg2 id)).trans c2
  have d3 : w11.cell? ⟨g, 3, none⟩ = some (.int .u64 (h4 : Int)) := (World.cell?_of_block (w := w10) (a := ⟨g, 3, none⟩) (t11.block g hg2 id)).trans c3
  have hgl : g < w11.heap.size := Nat.lt_of_lt_of_le hg2 t11.size
  have HY : Hid (Tn (fun _ => False) w10 w11 ∧ IsC w11 w10.heap.size #[.pointer (some ⟨w.heap.size, 0, none⟩)] ∧ IsC w11 (w10.heap.size + 1) #[.int .i64 8] ∧ IsC w11 (w10.heap.size + 2) #[.int .u64 (h5 : Int)]) := ⟨t11, y0, y1, y2⟩
  clear t11 y0 y1 y2 c1 c2 c3 c4 hax
  obtain ⟨w12, hw12⟩ : ∃ w12, (w11.alloc (.cells #[.int .u64 (h4 : Int), .int .u64 (h3 : Int), .int .u64 (h2 : Int)] 51)).drew = w12 := ⟨_, rfl⟩
  have HW12 : Hid ((w11.alloc (.cells #[.int .u64 (h4 : Int), .int .u64 (h3 : Int), .int .u64 (h2 : Int)] 51)).drew = w12) := hw12
  have t12 : Tn (fun _ => False) w11 w12 := by rw [← hw12]; exact ((Tn.refl _ _).alloc _).drew
  have hcs : IsC w12 w11.heap.size #[.int .u64 (h4 : Int), .int .u64 (h3 : Int), .int .u64 (h2 : Int)] := by rw [← hw12]; exact isC_new w11 _ 51
  have hwant : HdsAt w12 w11.heap.size (some ⟨w11.heap.size, 0, none⟩) [h4, h3, h2] := fun i x hx => by
    refine ⟨0, rfl, hcs.lt, ?_⟩
    rw [Nat.zero_add, hcs.cell]
    match i, hx with
    | 0, hx => cases hx; rfl
    | 1, hx => cases hx; rfl
    | 2, hx => cases hx; rfl
    | i + 3, hx => simp at hx
  have t1012 : Tn (fun _ => False) w10 w12 := HY.out.1.trans t12 (fun _ _ h => h)
  have hseq := axis_seq (R := fun b => ro' b ≠ 0) (db := w.heap.size) (D := D1) (h := h5) (m := 4) (s := s5) wf_D1 HV9.out.2.2.2.2 HV9.out.2.2.2.1 (by rw [HV9.out.2.1]; simp) HV9.out.2.2.1 (by simp) (d1 := w10.heap.size) (d2 := w10.heap.size + 2) (d3 := w10.heap.size + 1)
  have hgo := goes_any hseq (enters_of Try.func46 (by kernel_rfl) rfl) w12 ⟨HV10.out.turn t1012.gr (fun _ _ h => h), HY.out.2.1.tn t12 id, HY.out.2.2.2.tn t12 id, HY.out.2.2.1.tn t12 id⟩ (some ⟨w11.heap.size, 0, none⟩) 3 w11.heap.size hwant (fun _ h => h) (by simp)
  simp only [List.length_cons, List.length_nil, Nat.reduceAdd] at hgo
  have HB12 : Hid (Below w.heap.size w w12) := HB10.out.trans (t1012.below HB10.out.size (fun _ h => h.elim))
  clear hw12 t12 hcs hwant t1012 hseq
  go_wp2_with (first | go_region | fail)
  rw [HW12.out]
  refine Calls.mono (callsIn_wide.1 hgo) ?_
  rintro e w13 ⟨rfl, t13, -⟩
  have HB13 : Hid (Below w.heap.size w w13) := HB12.out.trans (t13.below HB12.out.size (fun _ h => h.elim))
  clear t13 hgo
  go_wp2
  go_ret
  exact ⟨rfl, HB13.out⟩

end Go.Proofs.Ytjkgjckkglfokab

/- The law WalkLaws is walked. -/
namespace Go.Proofs.Ytjkgjckkglfokab
open Go.RowKit Go.Shelf
set_option linter.unusedVariables false
set_option linter.unusedSimpArgs false
attribute [local go_sem] Oper.semAt_some

set_option maxRecDepth 100000 in
set_option maxHeartbeats 2000000 in
theorem same_any (w : World) (K1 K2 : Nat → Prop) (a1 a2 : Option Addr) (ys : List Int) (n c1 c2 : Nat) (hn : ys.length = n) (h1 : NumsAt w K1 a1 ys) (h2 : NumsAt w K2 a2 ys) (hc1 : n ≤ c1) (hc2 : n ≤ c2) (hl : n < 4611686018427387904) :
    Calls Try.prog 19 #[.slice a1 n c1, .slice a2 n c2] w fun e w' => e = .returned (.bool true) ∧ Below w.heap.size w w' := by
  have HN : Hid (NumsAt w K1 a1 ys ∧ NumsAt w K2 a2 ys ∧ ys.length = n) := ⟨h1, h2, hn⟩
  have hnn : (n : Int) < 4611686018427387904 := by omega
  have hne : ((n : Int) != (n : Int)) = false := by simp
  clear h1 h2 hn
  go_enter Try.func19, Try.ntmps19
  go_wp2_with fail
  go_loopw [5] (fun i wr => ∃ j : Nat, j ≤ n ∧ i = .int .i64 (j : Int) ∧ Hid (Below w.heap.size w wr)) (fun i _ => n - (intOf i).toNat)
  case atStart => exact ⟨0, Nat.zero_le _, rfl, Below.refl _ _⟩
  case round =>
    obtain ⟨j, hj, rfl, HB⟩ := hrel
    by_cases hjl : j < n
    · have hx : ys[j]? = some (ys[j]'(by rw [HN.out.2.2]; exact hjl)) := List.getElem?_eq_getElem _
      obtain ⟨g, o, rfl, -, hg1, hg2⟩ := HN.out.1 j _ hx
      obtain ⟨g', o', rfl, -, hg3, hg4⟩ := HN.out.2.1 j _ hx
      generalize ys[j]'(by rw [HN.out.2.2]; exact hjl) = x at *
      have d1 : wr.cell? ⟨g, o + j, none⟩ = some (.int .i64 x) := (HB.out.cell (p := ⟨g, o + j, none⟩) hg1).trans hg2
      have d2 : wr.cell? ⟨g', o' + j, none⟩ = some (.int .i64 x) := (HB.out.cell (p := ⟨g', o' + j, none⟩) hg3).trans hg4
      have hji : (j : Int) < (n : Int) := by omega
      have hxx : (x != x) = false := by simp
      clear hg2 hg4 hx
      go_wp2_with (go_region)
      go_roundw
      case rel => exact ⟨j + 1, by omega, by go_num, HB.out.drew⟩
      case measure => simp [intOf]; omega
    · obtain rfl : j = n := by omega
      have hji : ¬ (j : Int) < (j : Int) := by omega
      go_wp2
      go_ret
      exact ⟨rfl, HB.out⟩

set_option maxRecDepth 100000 in
set_option maxHeartbeats 8000000 in
theorem laws_walk (W : World) (la : Option Addr) (n cap : Nat) (xs : List Int) (a b : Int) (K : Nat → Prop) (hn : xs.length = n) (hl : n < 17592186044416) (hx : NumsAt W K la xs) (hK : ∀ k, K k → k < W.heap.size) :
    Calls Try.prog 3 #[.slice la n cap, .int .i64 a, .int .i64 b] W fun e Y => e = .returned (.bool true) ∧ Below W.heap.size W Y := by
  have hmf : ∀ (fn : Fn) (first cap : Array Value) (w : World), (Instr.makeFunc fn first cap).run Try.prog w = .ok (.func fn first cap) w := fun _ _ _ _ => rfl
  have hn1 : ∀ b w, (Op.unary UnOp.not (.bool b)).run Try.prog w = .ok (.bool (!b)) w := fun b _ => by cases b <;> kernel_rfl
  obtain ⟨W0, hW0⟩ : ∃ W0, (W.alloc (.cells #[.int .i64 a] 3)).alloc (.cells #[.int .i64 b] 3) = W0 := ⟨_, rfl⟩
  have HW0 : Hid ((W.alloc (.cells #[.int .i64 a] 3)).alloc (.cells #[.int .i64 b] 3) = W0) := hW0
  obtain ⟨t0, y0, y1, z0⟩ := two_new hW0
  have H0 : Hid (Tn (fun _ => False) W W0 ∧ IsC W0 W.heap.size #[.int .i64 a] ∧ IsC W0 (W.heap.size + 1) #[.int .i64 b] ∧ W0.heap.size = W.heap.size + 2) := ⟨t0, y0, y1, z0⟩
  have HX : Hid (NumsAt W K la xs ∧ (∀ k, K k → k < W.heap.size) ∧ xs.length = n ∧ n < 17592186044416) := ⟨hx, hK, hn, hl⟩
  obtain ⟨L1, hL1⟩ : ∃ L1, (xs.map fun x => xr b (xr a x)) = L1 := ⟨_, rfl⟩
  obtain ⟨L3, hL3⟩ : ∃ L3, (xs.filter fun x => dvd0 a x && decide (x < b)) = L3 := ⟨_, rfl⟩
  obtain ⟨L5, hL5⟩ : ∃ L5, xs.map (xr a) = L5 := ⟨_, rfl⟩
  have HL : Hid ((xs.map (xr a)).map (xr b) = L1 ∧ (xs.map fun x => xr b (xr a x)) = L1 ∧ (xs.filter (dvd0 a)).filter (fun x => decide (x < b)) = L3 ∧ (xs.filter fun x => dvd0 a x && decide (x < b)) = L3 ∧ (xs.flatMap fun x => [xr a x]) = L5 ∧ xs.map (xr a) = L5) := by
    refine ⟨by rw [List.map_map]; exact hL1, hL1, ?_, hL3, by rw [flat_one]; exact hL5, hL5⟩
    rw [List.filter_filter, ← hL3]
    congr 1
    funext x
    exact Bool.and_comm _ _
  have HQ : Hid (L1.length ≤ n ∧ L3.length ≤ n ∧ L5.length ≤ n) := by
    refine ⟨by rw [← hL1]; simp [hn], by rw [← hL3]; exact Nat.le_trans (List.length_filter_le _ _) (by omega), by rw [← hL5]; simp [hn]⟩
  clear hL1 hL3 hL5
  clear hW0 t0 y0 y1 z0 hx hK hn hl
  go_enter Try.func3, Try.ntmps3
  go_wp2_with fail
  rw [HW0.out]
  refine Calls.mono (lives_any W0) ?_
  rintro e w1 ⟨rfl, hb1⟩
  obtain ⟨cb, hcb⟩ : ∃ cb, w1.heap.size = cb := ⟨_, rfl⟩
  have HCB : Hid (w1.heap.size = cb) := hcb
  obtain ⟨W2, hW2⟩ : ∃ W2, w1.alloc (.cells #[.int .i64 0] 3) = W2 := ⟨_, rfl⟩
  have HW2 : Hid (w1.alloc (.cells #[.int .i64 0] 3) = W2) := hW2
  have hs2 : W2.heap.size = cb + 1 := by rw [← hW2, World.size_alloc, hcb]
  have hmk := mk_counted W2 la n cap (some ⟨cb, 0, none⟩)
  rw [hs2] at hmk
  obtain ⟨W3, hW3⟩ : ∃ W3, (W2.alloc (.cells #[.slice la n cap] 22)).alloc (.cells #[.pointer (some ⟨cb, 0, none⟩)] 27) = W3 := ⟨_, rfl⟩
  rw [hW3] at hmk
  obtain ⟨W5, hW5⟩ : ∃ W5, (W3.alloc (.cells #[.func (.func 9) #[] #[.pointer (some ⟨W.heap.size, 0, none⟩)]] 28)).alloc (.cells #[.func (.func 11) #[] #[.pointer (some ⟨W.heap.size + 1, 0, none⟩)]] 28) = W5 := ⟨_, rfl⟩
  have HW5 : Hid ((W3.alloc (.cells #[.func (.func 9) #[] #[.pointer (some ⟨W.heap.size, 0, none⟩)]] 28)).alloc (.cells #[.func (.func 11) #[] #[.pointer (some ⟨W.heap.size + 1, 0, none⟩)]] 28) = W5) := hW5
  obtain ⟨t3, y3, y4, z3⟩ := two_new hW3
  obtain ⟨t5, y5, y6, z5⟩ := two_new hW5
  rw [hs2] at y3 y4 z3
  rw [z3] at y5 y6 z5
  have t1 : Tn (fun _ => False) W0 w1 := Tn.of_below hb1 (Nat.le_refl _)
  have t2 : Tn (fun _ => False) w1 W2 := by rw [← hW2]; exact (Tn.refl _ _).alloc _
  have y2 : IsC W2 cb #[.int .i64 0] := by rw [← hW2, ← hcb]; exact isC_new _ _ _
  have t25 : Tn (fun _ => False) W2 W5 := t3.trans t5 (fun _ _ h => h)
  have t05 : Tn (fun _ => False) W0 W5 := (t1.trans t2 (fun _ _ h => h)).trans t25 (fun _ _ h => h)
  have HST : Hid (St W.heap.size cb la n cap K xs a b W5 ∧ Below W.heap.size W W5 ∧ W3.heap.size = cb + 3) := by
    refine ⟨⟨by have := H0.out.2.2.2; have := t1.size; omega, HX.out.2.1, ⟨y3.tn t5 id, y4.tn t5 id, ⟨0, y2.tn t25 id⟩, (HX.out.1.tn H0.out.1 (fun _ _ h => h)).tn t05 (fun _ _ h => h)⟩, H0.out.2.1.tn t05 id, H0.out.2.2.1.tn t05 id, y5, y6⟩, (H0.out.1.trans t05 (fun _ _ h => h)).below (Nat.le_refl _) (fun _ h => h.elim), by omega⟩
  clear hb1 hcb hW2 hs2 hW3 hW5 t3 y3 y4 z3 t5 y5 y6 z5 t1 t2 y2 t25 t05 H0 HW0
  go_wp2_with fail
  rw [HW2.out, HCB.out]
  refine Calls.mono hmk ?_
  rintro e w' ⟨rfl, rfl⟩
  clear hmk
  go_wp2_with fail
  rw [HW5.out, HST.out.2.2]
  clear HW5 HW2 HCB
  obtain ⟨X1, hX1⟩ : ∃ X1, (W5.alloc (.cells #[.func (.func 26) #[] #[.pointer (some ⟨cb + 1, 0, none⟩), .pointer (some ⟨cb + 2, 0, none⟩)]] 25)).alloc (.cells #[.func (.func 8) #[] #[.pointer (some ⟨W.heap.size, 0, none⟩)]] 30) = X1 := ⟨_, rfl⟩
  obtain ⟨X2, hX2⟩ : ∃ X2, (X1.alloc (.cells #[.func (.func 29) #[] #[.pointer (some ⟨W5.heap.size, 0, none⟩), .pointer (some ⟨W5.heap.size + 1, 0, none⟩)]] 25)).alloc (.cells #[.func (.func 14) #[] #[.pointer (some ⟨W.heap.size + 1, 0, none⟩)]] 30) = X2 := ⟨_, rfl⟩
  have hm1 := mk_map W5 26 #[.pointer (some ⟨cb + 1, 0, none⟩), .pointer (some ⟨cb + 2, 0, none⟩)] 8 #[.pointer (some ⟨W.heap.size, 0, none⟩)]
  rw [hX1] at hm1
  have hm2 := mk_map X1 29 #[.pointer (some ⟨W5.heap.size, 0, none⟩), .pointer (some ⟨W5.heap.size + 1, 0, none⟩)] 14 #[.pointer (some ⟨W.heap.size + 1, 0, none⟩)]
  rw [hX2] at hm2
  have hls := ls_map2 HST.out.1 HX.out.2.2.1 HX.out.2.2.2 hX1 hX2
  rw [HL.out.1] at hls
  clear hX1 hX2
  refine Calls.mono hm1 ?_
  rintro e u1 ⟨rfl, rfl⟩
  go_wp2_with fail
  refine Calls.mono hm2 ?_
  rintro e u2 ⟨rfl, rfl⟩
  go_wp2_with fail
  refine Calls.mono hls ?_
  rintro e Y1 ⟨v1, c1, rfl, hc1, hv1, tY1, sY1⟩
  have HY1 : Hid (St W.heap.size cb la n cap K xs a b Y1 ∧ Below W.heap.size W Y1 ∧ NumsAt Y1 (fun b => b ≠ cb) v1 L1 ∧ L1.length ≤ c1) := ⟨sY1, HST.out.2.1.trans (tY1.below HST.out.2.1.size (fun k (e : k = cb) => by have := HST.out.1.cb2; omega)), hv1, hc1⟩
  clear hv1 tY1 sY1 hm1 hm2 hls hc1
  go_wp2_with fail
  obtain ⟨X3, hX3⟩ : ∃ X3, (Y1.alloc (.cells #[.func (.func 26) #[] #[.pointer (some ⟨cb + 1, 0, none⟩), .pointer (some ⟨cb + 2, 0, none⟩)]] 25)).alloc (.cells #[.func (.func 15) #[] #[.pointer (some ⟨W.heap.size, 0, none⟩), .pointer (some ⟨W.heap.size + 1, 0, none⟩)]] 30) = X3 := ⟨_, rfl⟩
  have hm3 := mk_map Y1 26 #[.pointer (some ⟨cb + 1, 0, none⟩), .pointer (some ⟨cb + 2, 0, none⟩)] 15 #[.pointer (some ⟨W.heap.size, 0, none⟩), .pointer (some ⟨W.heap.size + 1, 0, none⟩)]
  rw [hX3] at hm3
  have hls := ls_mapb HY1.out.1 HX.out.2.2.1 HX.out.2.2.2 hX3
  rw [HL.out.2.1] at hls
  clear hX3
  refine Calls.mono hm3 ?_
  rintro e u3 ⟨rfl, rfl⟩
  go_wp2_with fail
  refine Calls.mono hls ?_
  rintro e Y2 ⟨v2, c2, rfl, hc2, hv2, tY2, sY2⟩
  have HY2 : Hid (St W.heap.size cb la n cap K xs a b Y2 ∧ Below W.heap.size W Y2 ∧ NumsAt Y2 (fun b => b ≠ cb) v1 L1 ∧ L1.length ≤ c1 ∧ NumsAt Y2 (fun b => b ≠ cb) v2 L1 ∧ L1.length ≤ c2) := ⟨sY2, HY1.out.2.1.trans (tY2.below HY1.out.2.1.size (fun k (e : k = cb) => by have := HST.out.1.cb2; omega)), HY1.out.2.2.1.tn tY2 (fun _ h e => h e), HY1.out.2.2.2, hv2, hc2⟩
  clear hv2 tY2 sY2 hm3 hls HY1 hc2
  have hoa : Y2.cell? ⟨cb + 3, 0, none⟩ = some (.func (.func 9) #[] #[.pointer (some ⟨W.heap.size, 0, none⟩)]) := HY2.out.1.oa.cell 0
  have hob : Y2.cell? ⟨cb + 4, 0, none⟩ = some (.func (.func 11) #[] #[.pointer (some ⟨W.heap.size + 1, 0, none⟩)]) := HY2.out.1.ob.cell 0
  have hsl := HY2.out.1.ob.lt
  have sZ : St W.heap.size cb la n cap K xs a b Y2.drew := HY2.out.1.no (Tn.refl _ _).drew
  obtain ⟨X4, hX4⟩ : ∃ X4, (Y2.drew.alloc (.cells #[.func (.func 26) #[] #[.pointer (some ⟨cb + 1, 0, none⟩), .pointer (some ⟨cb + 2, 0, none⟩)]] 25)).alloc (.cells #[.func (.func 9) #[] #[.pointer (some ⟨W.heap.size, 0, none⟩)]] 28) = X4 := ⟨_, rfl⟩
  obtain ⟨X5, hX5⟩ : ∃ X5, (X4.alloc (.cells #[.func (.func 30) #[] #[.pointer (some ⟨Y2.drew.heap.size, 0, none⟩), .pointer (some ⟨Y2.drew.heap.size + 1, 0, none⟩)]] 25)).alloc (.cells #[.func (.func 11) #[] #[.pointer (some ⟨W.heap.size + 1, 0, none⟩)]] 28) = X5 := ⟨_, rfl⟩
  have hm4 := mk_only Y2.drew 26 #[.pointer (some ⟨cb + 1, 0, none⟩), .pointer (some ⟨cb + 2, 0, none⟩)] 9 #[.pointer (some ⟨W.heap.size, 0, none⟩)]
  rw [hX4] at hm4
  have hm5 := mk_only X4 30 #[.pointer (some ⟨Y2.drew.heap.size, 0, none⟩), .pointer (some ⟨Y2.drew.heap.size + 1, 0, none⟩)] 11 #[.pointer (some ⟨W.heap.size + 1, 0, none⟩)]
  rw [hX5] at hm5
  have hls := ls_only2 sZ HX.out.2.2.1 HX.out.2.2.2 hX4 hX5
  rw [HL.out.2.2.1] at hls
  have hs4 := sZ.no (two_new hX4).1
  have hs5 := hs4.no (two_new hX5).1
  have o4a : X4.cell? ⟨cb + 3, 0, none⟩ = some (.func (.func 9) #[] #[.pointer (some ⟨W.heap.size, 0, none⟩)]) := hs4.oa.cell 0
  have o4b : X4.cell? ⟨cb + 4, 0, none⟩ = some (.func (.func 11) #[] #[.pointer (some ⟨W.heap.size + 1, 0, none⟩)]) := hs4.ob.cell 0
  have o5a : X5.cell? ⟨cb + 3, 0, none⟩ = some (.func (.func 9) #[] #[.pointer (some ⟨W.heap.size, 0, none⟩)]) := hs5.oa.cell 0
  have o5b : X5.cell? ⟨cb + 4, 0, none⟩ = some (.func (.func 11) #[] #[.pointer (some ⟨W.heap.size + 1, 0, none⟩)]) := hs5.ob.cell 0
  clear hX4 hX5 sZ hs4 hs5
  go_wp2_with fail
  have tok0 : True := trivial
  have tok1 : True := trivial
  go_region_held3 (fun Z => Z.cell? ⟨cb + 3, 0, none⟩ = some (.func (.func 9) #[] #[.pointer (some ⟨W.heap.size, 0, none⟩)]) ∧ Z.cell? ⟨cb + 4, 0, none⟩ = some (.func (.func 11) #[] #[.pointer (some ⟨W.heap.size + 1, 0, none⟩)])) (go_keep) (first
    | (go_at_call 16; have _t := tok0; (with_reducible refine Calls.mono hm4 ?_); rintro e u4 ⟨rfl, rfl⟩; clear tok0 _t)
    | (go_at_call 16; have _t := tok1; (refine Calls.mono hm5 ?_); rintro e u5 ⟨rfl, rfl⟩; clear tok1 _t)
    | (go_at_call 12; (refine Calls.mono hls ?_); rintro e Y3 ⟨v3, c3, rfl, hc3, hv3, tY3, sY3⟩; have q3a : Y3.cell? ⟨cb + 3, 0, none⟩ = some (.func (.func 9) #[] #[.pointer (some ⟨W.heap.size, 0, none⟩)]) := sY3.oa.cell 0; have q3b : Y3.cell? ⟨cb + 4, 0, none⟩ = some (.func (.func 11) #[] #[.pointer (some ⟨W.heap.size + 1, 0, none⟩)]) := sY3.ob.cell 0))
  have HY3 : Hid (St W.heap.size cb la n cap K xs a b Y3 ∧ Below W.heap.size W Y3 ∧ NumsAt Y3 (fun b => b ≠ cb) v1 L1 ∧ L1.length ≤ c1 ∧ NumsAt Y3 (fun b => b ≠ cb) v2 L1 ∧ L1.length ≤ c2 ∧ NumsAt Y3 (fun b => b ≠ cb) v3 L3 ∧ L3.length ≤ c3) := by
    have t : Tn (fun b => b = cb) Y2 Y3 := (Tn.refl _ _).drew.trans tY3 (fun _ _ h => h)
    exact ⟨sY3, HY2.out.2.1.trans (t.below HY2.out.2.1.size (fun k (e : k = cb) => by have := HST.out.1.cb2; omega)), HY2.out.2.2.1.tn t (fun _ h e => h e), HY2.out.2.2.2.1, HY2.out.2.2.2.2.1.tn t (fun _ h e => h e), HY2.out.2.2.2.2.2, hv3, hc3⟩
  clear hv3 tY3 sY3 hc3 HY2 hoa hob hsl hm4 hm5 hls o4a o4b o5a o5b q3a q3b
  go_wp2_with fail
  obtain ⟨Z4, hZ4⟩ : ∃ Z4, (Y3.alloc (.cells #[.func (.func 26) #[] #[.pointer (some ⟨cb + 1, 0, none⟩), .pointer (some ⟨cb + 2, 0, none⟩)]] 25)).alloc (.cells #[.func (.func 17) #[] #[.pointer (some ⟨cb + 3, 0, none⟩), .pointer (some ⟨cb + 4, 0, none⟩)]] 28) = Z4 := ⟨_, rfl⟩
  have hmm := mk_only Y3 26 #[.pointer (some ⟨cb + 1, 0, none⟩), .pointer (some ⟨cb + 2, 0, none⟩)] 17 #[.pointer (some ⟨cb + 3, 0, none⟩), .pointer (some ⟨cb + 4, 0, none⟩)]
  rw [hZ4] at hmm
  have hls := ls_only HY3.out.1 HX.out.2.2.1 HX.out.2.2.2 hZ4
  rw [HL.out.2.2.2.1] at hls
  clear hZ4
  refine Calls.mono hmm ?_
  rintro e z4 ⟨rfl, rfl⟩
  go_wp2_with fail
  refine Calls.mono hls ?_
  rintro e Y4 ⟨v4, c4, rfl, hc4, hv4, tY4, sY4⟩
  have HY4 : Hid (St W.heap.size cb la n cap K xs a b Y4 ∧ Below W.heap.size W Y4 ∧ NumsAt Y4 (fun b => b ≠ cb) v1 L1 ∧ L1.length ≤ c1 ∧ NumsAt Y4 (fun b => b ≠ cb) v2 L1 ∧ L1.length ≤ c2 ∧ NumsAt Y4 (fun b => b ≠ cb) v3 L3 ∧ L3.length ≤ c3 ∧ NumsAt Y4 (fun b => b ≠ cb) v4 L3 ∧ L3.length ≤ c4) := ⟨sY4, HY3.out.2.1.trans (tY4.below HY3.out.2.1.size (fun k (e : k = cb) => by have := HST.out.1.cb2; omega)), (HY3.out.2.2.1).tn tY4 (fun _ h e => h e), HY3.out.2.2.2.1, (HY3.out.2.2.2.2.1).tn tY4 (fun _ h e => h e), HY3.out.2.2.2.2.2.1, (HY3.out.2.2.2.2.2.2.1).tn tY4 (fun _ h e => h e), HY3.out.2.2.2.2.2.2.2, hv4, hc4⟩
  clear hv4 tY4 sY4 hmm hls HY3 hc4
  go_wp2_with fail
  obtain ⟨Z5, hZ5⟩ : ∃ Z5, (Y4.alloc (.cells #[.func (.func 26) #[] #[.pointer (some ⟨cb + 1, 0, none⟩), .pointer (some ⟨cb + 2, 0, none⟩)]] 25)).alloc (.cells #[.func (.func 6) #[] #[.pointer (some ⟨W.heap.size, 0, none⟩)]] 29) = Z5 := ⟨_, rfl⟩
  have hmm := mk_flat Y4 26 #[.pointer (some ⟨cb + 1, 0, none⟩), .pointer (some ⟨cb + 2, 0, none⟩)] 6 #[.pointer (some ⟨W.heap.size, 0, none⟩)]
  rw [hZ5] at hmm
  have hls := ls_flat HY4.out.1 HX.out.2.2.1 HX.out.2.2.2 hZ5
  rw [HL.out.2.2.2.2.1] at hls
  clear hZ5
  refine Calls.mono hmm ?_
  rintro e z5 ⟨rfl, rfl⟩
  go_wp2_with fail
  refine Calls.mono hls ?_
  rintro e Y5 ⟨v5, c5, rfl, hc5, hv5, tY5, sY5⟩
  have HY5 : Hid (St W.heap.size cb la n cap K xs a b Y5 ∧ Below W.heap.size W Y5 ∧ NumsAt Y5 (fun b => b ≠ cb) v1 L1 ∧ L1.length ≤ c1 ∧ NumsAt Y5 (fun b => b ≠ cb) v2 L1 ∧ L1.length ≤ c2 ∧ NumsAt Y5 (fun b => b ≠ cb) v3 L3 ∧ L3.length ≤ c3 ∧ NumsAt Y5 (fun b => b ≠ cb) v4 L3 ∧ L3.length ≤ c4 ∧ NumsAt Y5 (fun b => b ≠ cb) v5 L5 ∧ L5.length ≤ c5) := ⟨sY5, HY4.out.2.1.trans (tY5.below HY4.out.2.1.size (fun k (e : k = cb) => by have := HST.out.1.cb2; omega)), (HY4.out.2.2.1).tn tY5 (fun _ h e => h e), HY4.out.2.2.2.1, (HY4.out.2.2.2.2.1).tn tY5 (fun _ h e => h e), HY4.out.2.2.2.2.2.1, (HY4.out.2.2.2.2.2.2.1).tn tY5 (fun _ h e => h e), HY4.out.2.2.2.2.2.2.2.1, (HY4.out.2.2.2.2.2.2.2.2.1).tn tY5 (fun _ h e => h e), HY4.out.2.2.2.2.2.2.2.2.2, hv5, hc5⟩
  clear hv5 tY5 sY5 hmm hls HY4 hc5
  go_wp2_with fail
  obtain ⟨Z6, hZ6⟩ : ∃ Z6, (Y5.alloc (.cells #[.func (.func 26) #[] #[.pointer (some ⟨cb + 1, 0, none⟩), .pointer (some ⟨cb + 2, 0, none⟩)]] 25)).alloc (.cells #[.func (.func 8) #[] #[.pointer (some ⟨W.heap.size, 0, none⟩)]] 30) = Z6 := ⟨_, rfl⟩
  have hmm := mk_map Y5 26 #[.pointer (some ⟨cb + 1, 0, none⟩), .pointer (some ⟨cb + 2, 0, none⟩)] 8 #[.pointer (some ⟨W.heap.size, 0, none⟩)]
  rw [hZ6] at hmm
  have hls := ls_map HY5.out.1 HX.out.2.2.1 HX.out.2.2.2 hZ6
  rw [HL.out.2.2.2.2.2] at hls
  clear hZ6
  refine Calls.mono hmm ?_
  rintro e z6 ⟨rfl, rfl⟩
  go_wp2_with fail
  refine Calls.mono hls ?_
  rintro e Y6 ⟨v6, c6, rfl, hc6, hv6, tY6, sY6⟩
  have HY6 : Hid (St W.heap.size cb la n cap K xs a b Y6 ∧ Below W.heap.size W Y6 ∧ NumsAt Y6 (fun b => b ≠ cb) v1 L1 ∧ L1.length ≤ c1 ∧ NumsAt Y6 (fun b => b ≠ cb) v2 L1 ∧ L1.length ≤ c2 ∧ NumsAt Y6 (fun b => b ≠ cb) v3 L3 ∧ L3.length ≤ c3 ∧ NumsAt Y6 (fun b => b ≠ cb) v4 L3 ∧ L3.length ≤ c4 ∧ NumsAt Y6 (fun b => b ≠ cb) v5 L5 ∧ L5.length ≤ c5 ∧ NumsAt Y6 (fun b => b ≠ cb) v6 L5 ∧ L5.length ≤ c6) := ⟨sY6, HY5.out.2.1.trans (tY6.below HY5.out.2.1.size (fun k (e : k = cb) => by have := HST.out.1.cb2; omega)), (HY5.out.2.2.1).tn tY6 (fun _ h e => h e), HY5.out.2.2.2.1, (HY5.out.2.2.2.2.1).tn tY6 (fun _ h e => h e), HY5.out.2.2.2.2.2.1, (HY5.out.2.2.2.2.2.2.1).tn tY6 (fun _ h e => h e), HY5.out.2.2.2.2.2.2.2.1, (HY5.out.2.2.2.2.2.2.2.2.1).tn tY6 (fun _ h e => h e), HY5.out.2.2.2.2.2.2.2.2.2.1, (HY5.out.2.2.2.2.2.2.2.2.2.2.1).tn tY6 (fun _ h e => h e), HY5.out.2.2.2.2.2.2.2.2.2.2.2, hv6, hc6⟩
  clear hv6 tY6 sY6 hmm hls HY5 hc6
  go_wp2_with fail
  refine Calls.mono (same_any Y6 _ _ v1 v2 L1 L1.length c1 c2 rfl (HY6.out.2.2.1) (HY6.out.2.2.2.2.1) (HY6.out.2.2.2.1) (HY6.out.2.2.2.2.2.1) (by have := HQ.out.1; have := HX.out.2.2.2; omega)) ?_
  rintro e V1 ⟨rfl, hV1⟩
  have t1 : Tn (fun _ => False) Y6 V1 := Tn.of_below hV1 (Nat.le_refl _)
  have HV1 : Hid (Tn (fun _ => False) Y6 V1) := t1
  have hs2 := same_any V1 _ _ v3 v4 L3 L3.length c3 c4 rfl ((HY6.out.2.2.2.2.2.2.1).tn t1 (fun _ _ h => h)) ((HY6.out.2.2.2.2.2.2.2.2.1).tn t1 (fun _ _ h => h)) (HY6.out.2.2.2.2.2.2.2.1) (HY6.out.2.2.2.2.2.2.2.2.2.1) (by have := HQ.out.2.1; have := HX.out.2.2.2; omega)
  clear hV1 t1
  go_wp2_with fail
  refine Calls.mono hs2 ?_
  rintro e V2 ⟨rfl, hV2⟩
  have t2 : Tn (fun _ => False) Y6 V2 := HV1.out.trans (Tn.of_below hV2 (Nat.le_refl _)) (fun _ _ h => h)
  have HV2 : Hid (Tn (fun _ => False) Y6 V2) := t2
  have hs3 := same_any V2 _ _ v5 v6 L5 L5.length c5 c6 rfl ((HY6.out.2.2.2.2.2.2.2.2.2.2.1).tn t2 (fun _ _ h => h)) ((HY6.out.2.2.2.2.2.2.2.2.2.2.2.2.1).tn t2 (fun _ _ h => h)) (HY6.out.2.2.2.2.2.2.2.2.2.2.2.1) (HY6.out.2.2.2.2.2.2.2.2.2.2.2.2.2) (by have := HQ.out.2.2; have := HX.out.2.2.2; omega)
  clear hV2 t2 hs2
  go_wp2_with fail
  refine Calls.mono hs3 ?_
  rintro e V3 ⟨rfl, hV3⟩
  have HV3 : Hid (Below W.heap.size W V3) := (HY6.out.2.1).trans ((HV2.out.trans (Tn.of_below hV3 (Nat.le_refl _)) (fun _ _ h => h)).below (HY6.out.2.1).size (fun _ h => h.elim))
  clear hV3 hs3
  go_wp2
  go_ret
  exact ⟨rfl, HV3.out⟩

end Go.Proofs.Ytjkgjckkglfokab
