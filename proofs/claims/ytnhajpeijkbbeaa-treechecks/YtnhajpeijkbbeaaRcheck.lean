/- What is wrong with a tree: the document's answer; both at the face. -/
import Derived.Test.YtnhajpeijkbbeaaCheck
namespace Go.Proofs.Ytnhajpeijkbbeaa
open Go.RowKit
set_option linter.unusedVariables false

def RchkP (w : World) (n : Nat) (t : T n) (d ah : Int) (e : Ending) (w' : World) : Prop :=
  e = .returned (.tuple #[.int .i64 (chk n t d ah).1, .int .i64 (chk n t d ah).2]) ∧ Below w.heap.size w w'

def RchkAll (n : Nat) : Prop := ∀ (w : World) (v : Array Value) (t : T n) (lo hi : Nat) (d ah : Int), TreeAt w lo hi n v t → hi ≤ w.heap.size → 0 ≤ ah → ah ≤ 4096 → 0 ≤ d → d ≤ 65 →
    Calls Try.prog 8 #[.agg v, .int .i64 d, .int .i64 ah] w (RchkP w n t d ah)

theorem KidsAt.below {w w' : World} {lo hi n : Nat} {ka : Option Addr} {L : List (T n)} (h : KidsAt w lo hi n ka L) {B : Nat} (hb : Below B w w') (hs : hi ≤ B) : KidsAt w' lo hi n ka L :=
  h.of_cells (fun b o _ hb2 => hb.cell (p := ⟨b, o, none⟩) (show b < B by omega))
theorem AttrsAt.below {w w' : World} {lo hi : Nat} {a : Option Addr} {l : List (ByteArray × ByteArray)} (h : AttrsAt w lo hi a l) {B : Nat} (hb : Below B w w') (hs : hi ≤ B) : AttrsAt w' lo hi a l :=
  h.of_cells (fun b o _ hb2 => hb.cell (p := ⟨b, o, none⟩) (show b < B by omega))

set_option maxRecDepth 100000 in
set_option maxHeartbeats 1000000 in
theorem rcheck_any : ∀ (n : Nat), RchkAll n
  | 0 => fun _ _ _ _ _ _ _ h => h.elim
  | n + 1 => by
    intro w v t lo hi d ah h hsz h0 h1 hd0 hd1
    have ih := rcheck_any n
    obtain ⟨a, ac, ka, kc, rfl, hal, hkl, hac, hkc, hat, hkt⟩ := id h
    unfold tv at h ⊢
    have hbn := below_new' w (.cells #[.int .i64 t.kind, .string t.name, .slice a t.attrs.length ac, .string t.text, .slice ka t.kids.length kc] 25)
    have HBN : Hid (Below w.heap.size w (w.alloc (.cells #[.int .i64 t.kind, .string t.name, .slice a t.attrs.length ac, .string t.text, .slice ka t.kids.length kc] 25))) := hbn
    clear hbn
    by_cases hdd : 64 < d
    · have hR : chk (n + 1) t d ah = (ah, 2) := by rw [chk, if_pos (.inl hdd)]
      have HR : Hid (chk (n + 1) t d ah = (ah, 2)) := hR
      clear hR hal hkl hac hkc hat hkt h ih
      go_enter Try.func8, Try.ntmps8
      go_wp2
      go_ret2
      exact ⟨by rw [HR.out]; rfl, HBN.out⟩
    · have hd : decide (64 < d) = false := by simpa using hdd
      by_cases haa : 4096 ≤ ah
      · have hR : chk (n + 1) t d ah = (ah, 2) := by rw [chk, if_pos (.inr haa)]
        have HR : Hid (chk (n + 1) t d ah = (ah, 2)) := hR
        clear hR hal hkl hac hkc hat hkt h ih
        go_enter Try.func8, Try.ntmps8
        go_wp2
        go_ret2
        exact ⟨by rw [HR.out]; rfl, HBN.out⟩
      · have hR : chk (n + 1) t d ah = if ownE t = 0 then chkL (fun k x => chk n k (d + 1) x) (kidsT t) (ah + 1) else (ah, ownE t) := by
          rw [chk, if_neg (by omega)]
        have ha : decide (4096 ≤ ah) = false := by simpa using haa
        have HAT : Hid (AttrsAt w lo hi a t.attrs) := hat
        have HTR : Hid (TreeAt w lo hi (n + 1) #[.int .i64 t.kind, .string t.name, .slice a t.attrs.length ac, .string t.text, .slice ka t.kids.length kc] t) := h
        have HR : Hid (chk (n + 1) t d ah = if ownE t = 0 then chkL (fun k x => chk n k (d + 1) x) (kidsT t) (ah + 1) else (ah, ownE t)) := hR
        clear hR hal hkl hac hkc hat hkt h
        go_enter Try.func8, Try.ntmps8
        go_wp2_with fail
        refine (rnode_any _ lo t a ac ka _ kc ?_).mono ?_
        · exact (HAT.out.below HBN.out hsz).mono (Nat.le_refl _) (by simp; omega)
        rintro e w1 ⟨rfl, hb1⟩
        have HB1 : Hid (Below w.heap.size w w1) := HBN.out.trans (hb1.mono (by simp))
        have hc1 : ∀ o, w1.cell? ⟨w.heap.size, o, none⟩ = _ := fun o => hb1.cell (p := ⟨w.heap.size, o, none⟩) (by simp)
        clear hb1
        by_cases ho : ownE t = 0
        · obtain ⟨ka', kc', _, hk1, hkt, hkm⟩ := HTR.out.kids ho
          rw [ho]
          have hR := HR.out
          rw [if_pos ho] at hR
          have HRR : Hid (chk (n + 1) t d ah = chkL (fun k x => chk n k (d + 1) x) (kidsT t) (ah + 1)) := hR
          have hko := rkids_any w1 t.kind t.name a t.attrs.length ac t.text ka t.kids.length kc
          rw [hk1] at hko
          unfold maxK at hkm
          have HKT : Hid (KidsAt w lo hi n ka' (kidsT t)) := hkt
          clear HR hR HTR HAT hk1 ho hkt
          generalize kidsT t = L at *
          go_wp2_with fail
          refine hko.mono ?_
          rintro e w2 ⟨rfl, hb2⟩
          have HB2 : Hid (Below w.heap.size w w2) := HB1.out.trans (hb2.mono HB1.out.size)
          clear hb2 hc1 HB1 hko
          go_wp2
          go_loopw [2, 10, 11] (fun q v _ wr => ∃ (i : Nat) (x : Int), i ≤ L.length ∧ v = .int .i64 (i : Int) ∧ q = .int .i64 x ∧ 0 ≤ x ∧ x ≤ 4096 ∧ Hid (chkL (fun k x => chk n k (d + 1) x) (L.drop i) x = chk (n + 1) t d ah) ∧ Hid (Below w.heap.size w wr)) (fun _ v _ _ => L.length - (intOf v).toNat)
          case atStart => exact ⟨0, ah + 1, by omega, rfl, rfl, by omega, by omega, HRR.out.symm, HB2⟩
          case round =>
            obtain ⟨i, x, hi', rfl, rfl, hx0, hx1, hgo, hbw⟩ := hrel
            have hws := hbw.out.size
            by_cases hlt : i < L.length
            · obtain ⟨k, hk⟩ : ∃ k, L[i]? = some k := ⟨_, List.getElem?_eq_getElem hlt⟩
              have hkt' := HKT.out.below hbw.out hsz
              obtain ⟨b, o, kk, nm, a', al', ac', tx, ka2, kl2, kc2, rfl, hb1, hb2, c0, c1, c2, c3, c4, htr⟩ := hkt'.get hk
              have hbr : b < wr.heap.size := by omega
              have hstep := chkL_at (f := fun k x => chk n k (d + 1) x) (a := x) hk
              rw [hgo.out] at hstep
              have hge := chk_ge n k (d + 1) x
              have hle := chk_le n k (d + 1) x hx1
              have HST : Hid (chk (n + 1) t d ah = if (chk n k (d + 1) x).2 = 0 then chkL (fun k x => chk n k (d + 1) x) (L.drop (i + 1)) (chk n k (d + 1) x).1 else chk n k (d + 1) x) := hstep
              have HTR : Hid (TreeAt wr lo hi n #[.int .i64 kk, .string nm, .slice a' al' ac', .string tx, .slice ka2 kl2 kc2] k) := htr
              clear hstep hgo HKT hkt' hk htr HRR HB2
              go_wp2_with fail
              refine (ih _ _ k lo hi (d + 1) x HTR.out (by omega) hx0 hx1 (by omega) (by omega)).mono ?_
              rintro e w3 ⟨rfl, hb3⟩
              have HB3 : Hid (Below w.heap.size w w3) := hbw.out.trans (hb3.mono hws)
              clear hb3 hbw HTR c0 c1 c2 c3 c4
              by_cases he : (chk n k (d + 1) x).2 = 0
              · have hS := HST.out
                rw [if_pos he] at hS
                have HS : Hid (chk (n + 1) t d ah = chkL (fun k x => chk n k (d + 1) x) (L.drop (i + 1)) (chk n k (d + 1) x).1) := hS
                rw [he]
                clear hS HST he
                generalize (chk n k (d + 1) x).1 = y at *
                go_wp2
                go_roundw
                case rel => exact ⟨i + 1, y, by omega, by go_num, rfl, by omega, hle, HS.out.symm, HB3⟩
                case measure => simp [intOf]; omega
              · have hbn : ((chk n k (d + 1) x).2 == 0) = false := beq_eq_false_iff_ne.2 he
                have hS := HST.out
                rw [if_neg he] at hS
                have HS : Hid (chk (n + 1) t d ah = chk n k (d + 1) x) := hS
                have HE : Hid (¬ (chk n k (d + 1) x).2 = 0) := he
                clear hS HST he hge hle
                generalize hz : (chk n k (d + 1) x).2 = z at *
                generalize hy : (chk n k (d + 1) x).1 = y at *
                have HZ : Hid (chk n k (d + 1) x = (y, z)) := by rw [← hy, ← hz]; rfl
                clear hz hy
                go_wp2
                go_ret2
                exact ⟨by rw [HS.out, HZ.out]; rfl, HB3.out⟩
            · have hfin : chk (n + 1) t d ah = (x, 0) := by
                rw [← hgo.out, List.drop_eq_nil_of_le (by omega)]
                rfl
              have HF : Hid (chk (n + 1) t d ah = (x, 0)) := hfin
              clear hfin hgo HKT HRR HB2
              go_wp2
              go_ret2
              exact ⟨by rw [HF.out]; rfl, hbw.out⟩
        · have hbn : (ownE t == 0) = false := beq_eq_false_iff_ne.2 ho
          have hR := HR.out
          rw [if_neg ho] at hR
          have HRR : Hid (chk (n + 1) t d ah = (ah, ownE t)) := hR
          have HO : Hid (¬ ownE t = 0) := ho
          clear HR hR HTR HAT ho ih
          generalize ownE t = x at *
          go_wp2
          go_ret2
          exact ⟨by rw [HRR.out]; rfl, HB1.out⟩

set_option maxRecDepth 100000 in
set_option maxHeartbeats 1000000 in
theorem rCheck_any (n : Nat) (w : World) (v : Array Value) (t : T n) (lo hi : Nat) (h : TreeAt w lo hi n v t) (hsz : hi ≤ w.heap.size) :
    Calls Try.prog 6 #[.agg v] w fun e w' => e = .returned (.int .i64 (chk n t 1 0).2) ∧ Below w.heap.size w w' := by
  obtain ⟨k, nm, a, al, ac, tx, ka, kl, kc, rfl⟩ := h.form
  have hc := fun W (hb : Below w.heap.size w W) => rcheck_any n W _ t lo hi 1 0 (h.below hb hsz) (Nat.le_trans hsz hb.size) (by omega) (by omega) (by omega) (by omega)
  have HC := hc _ (below_new' w (.cells #[.int .i64 k, .string nm, .slice a al ac, .string tx, .slice ka kl kc] 25))
  have HBN : Hid (Below w.heap.size w (w.alloc (.cells #[.int .i64 k, .string nm, .slice a al ac, .string tx, .slice ka kl kc] 25))) := below_new' w _
  clear hc h
  go_enter Try.func6, Try.ntmps6
  go_wp2_with fail
  refine HC.mono ?_
  rintro e w1 ⟨rfl, hb1⟩
  go_wp2
  go_ret
  exact ⟨rfl, HBN.out.trans (hb1.mono (by simp))⟩

set_option maxRecDepth 100000 in
set_option maxHeartbeats 1000000 in
theorem Check_any (n : Nat) (w : World) (v : Array Value) (t : T n) (lo hi : Nat) (h : TreeAt w lo hi n v t) (hsz : hi ≤ w.heap.size) :
    Calls Try.prog 4 #[.agg v] w fun e w' => e = .returned (.int .i64 (chk n t 1 0).2) ∧ Below w.heap.size w w' := by
  obtain ⟨k, nm, a, al, ac, tx, ka, kl, kc, rfl⟩ := h.form
  have hb0 : Below w.heap.size w ((w.alloc (.cells #[.int .i64 k, .string nm, .slice a al ac, .string tx, .slice ka kl kc] 25)).alloc (.cells #[.int .i64 0] 3)) := (below_new' w _).alloc (by simp) _
  have hi0 : IsCells ((w.alloc (.cells #[.int .i64 k, .string nm, .slice a al ac, .string tx, .slice ka kl kc] 25)).alloc (.cells #[.int .i64 0] 3)) (w.heap.size + 1) #[.int .i64 0] := by
    have := isCells_new (w.alloc (.cells #[.int .i64 k, .string nm, .slice a al ac, .string tx, .slice ka kl kc] 25)) #[.int .i64 0] 3
    simpa using this
  have HC := check_any n _ _ t lo hi (w.heap.size + 1) 1 0 (h.below hb0 hsz) (by omega) hi0 (by omega) (by omega) (by omega) (by omega)
  have HB0 : Hid (Below w.heap.size w ((w.alloc (.cells #[.int .i64 k, .string nm, .slice a al ac, .string tx, .slice ka kl kc] 25)).alloc (.cells #[.int .i64 0] 3))) := hb0
  clear h hb0 hi0
  go_enter Try.func4, Try.ntmps4
  go_wp2_with fail
  refine HC.mono ?_
  rintro e w1 ⟨rfl, ht1, _⟩
  go_wp2
  go_ret
  exact ⟨rfl, HB0.out.trans (ht1.below (by simp; omega) (fun k hk => by omega))⟩

end Go.Proofs.Ytnhajpeijkbbeaa
