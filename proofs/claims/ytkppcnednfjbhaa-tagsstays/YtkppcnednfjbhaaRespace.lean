/- What 'respace' does: so many places one behind the other get labels, each a step behind the last. -/
import Derived.Test.YtkppcnednfjbhaaWrite
namespace Go.Proofs.Ytkppcnednfjbhaa
open Go.RowKit Go.Maps

def spreadTo (S : St) (lo base step : Nat) : Nat → St
  | 0 => S
  | j + 1 => match (spreadTo S lo base step j).ns[lo + j]? with
    | some n => (spreadTo S lo base step j).put (lo + j) n (base + (j + 1) * step)
    | none => spreadTo S lo base step j

theorem spreadTo_skel (S : St) (lo base step : Nat) : ∀ j, skel (spreadTo S lo base step j).ns = skel S.ns
  | 0 => rfl
  | j + 1 => by
    unfold spreadTo
    split
    · rename_i n hn
      exact (skel_set hn _).trans (spreadTo_skel S lo base step j)
    · exact spreadTo_skel S lo base step j

theorem spreadTo_mb (S : St) (lo base step : Nat) : ∀ j, (spreadTo S lo base step j).mb = S.mb
  | 0 => rfl
  | j + 1 => by
    unfold spreadTo
    split
    · exact spreadTo_mb S lo base step j
    · exact spreadTo_mb S lo base step j

theorem spreadTo_given (S : St) (lo base step : Nat) : ∀ j, (spreadTo S lo base step j).given = S.given
  | 0 => rfl
  | j + 1 => by
    unfold spreadTo
    split
    · exact spreadTo_given S lo base step j
    · exact spreadTo_given S lo base step j

theorem spreadTo_writes (S : St) (lo base step : Nat) : ∀ j, S.writes ≤ (spreadTo S lo base step j).writes ∧ (spreadTo S lo base step j).writes ≤ S.writes + j
  | 0 => ⟨Nat.le_refl _, Nat.le_refl _⟩
  | j + 1 => by
    have ih := spreadTo_writes S lo base step j
    unfold spreadTo
    split
    · simp only [St.put]
      split <;> omega
    · omega

theorem spreadTo_succ {S : St} {lo base step j : Nat} {n : Nd} (h : (spreadTo S lo base step j).ns[lo + j]? = some n) : spreadTo S lo base step (j + 1) = (spreadTo S lo base step j).put (lo + j) n (base + (j + 1) * step) := by
  rw [spreadTo, h]

theorem spreadTo_own {pb : Nat} {S : St} {lo base step j : Nat} {k : Nat} (h : Own pb (spreadTo S lo base step j) k) : Own pb S k :=
  own_skel (spreadTo_mb S lo base step j) (spreadTo_skel S lo base step j) h

set_option maxHeartbeats 1000000 in
theorem respace_any (w : World) (pb : Nat) (S : St) (lo cnt base step : Nat) (h : Lies w pb S) (hlo : lo + cnt ≤ S.ns.length) (hb : base + cnt * step < 18446744073709551616) (hs : step < 18446744073709551616) (hwr : S.writes + cnt < 18446744073709551616) (hcnt : cnt < 9223372036854775807) (h0 : 0 < cnt) :
    Calls Try.prog 33 #[.pointer (some ⟨pb, 0, none⟩), .pointer (ptrN S.ns lo), .int .i64 (cnt : Int), .int .u64 (base : Int), .int .u64 (step : Int)] w fun e w' => e = .returned (.tuple #[]) ∧ Lies w' pb (spreadTo S lo base step cnt) ∧ Turn (Own pb S) w w' := by
  go_enter Try.func33, Try.ntmps33
  go_wp2
  go_loopw [3, 10, 13] (fun x p i wr => ∃ j : Nat, j ≤ cnt ∧ x = .int .u64 ((base + j * step : Nat) : Int) ∧ p = .pointer (ptrN S.ns (lo + j)) ∧ i = .int .i64 (j : Int) ∧ Lies wr pb (spreadTo S lo base step j) ∧ Turn (Own pb S) w wr) (fun _ _ i _ => cnt - (intOf i).toNat)
  case atStart => exact ⟨0, Nat.zero_le _, by simp, rfl, rfl, h, Turn.refl _ _⟩
  case round =>
    obtain ⟨j, hj, rfl, rfl, rfl, hL, hT⟩ := hrel
    by_cases hlt : j < cnt
    · have hlen : lo + j < (spreadTo S lo base step j).ns.length := by rw [skel_length (spreadTo_skel S lo base step j)]; omega
      have hn : (spreadTo S lo base step j).ns[lo + j]? = some (spreadTo S lo base step j).ns[lo + j] := List.getElem?_eq_getElem hlen
      generalize (spreadTo S lo base step j).ns[lo + j] = n at hn
      have hp : ptrN S.ns (lo + j) = some ⟨n.blk, 0, none⟩ := by
        rw [← skel_ptrN (spreadTo_skel S lo base step j)]; simp [ptrN, hn]
      have hx1 : base + j * step + step = base + (j + 1) * step := by rw [Nat.add_mul]; omega
      have hx2 : base + (j + 1) * step ≤ base + cnt * step := Nat.add_le_add_left (Nat.mul_le_mul_right _ (by omega)) _
      have hwj := spreadTo_writes S lo base step j
      have hwrite := fun l => write_any wr pb (spreadTo S lo base step j) (lo + j) n l hL hn (by omega)
      have hS' := fun l => (fun w' (hL' : Lies w' pb ((spreadTo S lo base step j).put (lo + j) n l)) => (hL'.place (c := lo + j + 1) (by simp [St.put]; omega)))
      have hsk : Hid (skel ((spreadTo S lo base step j).ns.set (lo + j) { n with lab := base + (j + 1) * step }) = skel S.ns) := (skel_set hn _).trans (spreadTo_skel S lo base step j)
      have hsu : Hid (spreadTo S lo base step (j + 1) = (spreadTo S lo base step j).put (lo + j) n (base + (j + 1) * step)) := spreadTo_succ hn
      have Hown : Hid (∀ k, Own pb (spreadTo S lo base step j) k → Own pb S k) := fun k hk => spreadTo_own hk
      have HT : Hid (Turn (Own pb S) w wr) := hT
      rw [hp]
      have hxx : ((base + j * step : Nat) : Int) + (step : Int) = ((base + (j + 1) * step : Nat) : Int) := by omega
      generalize hye : base + (j + 1) * step = y at *
      have Hye : Hid (base + (j + 1) * step = y) := hye
      clear hye
      generalize base + j * step = x at *
      have hy : Hid (((x : Nat) : Int) + (step : Int) = (y : Int)) := hxx
      have hxs : x + step < 18446744073709551616 := by omega
      clear hxx hp hT hlen hS' hx1
      have hL0 : Hid (Lies wr pb (spreadTo S lo base step j)) := hL
      clear hL
      go_wp2_with fail
      rw [hy.out]
      refine (hwrite y).mono ?_
      rintro e w1 ⟨rfl, hL1, hT1⟩
      obtain ⟨b, o, hb, _, _, _, hnx, _⟩ := hL1.place (c := lo + j + 1) (by have := skel_length hsk.out; simp [St.put] at this ⊢; omega)
      have hp2 : ptrN ((spreadTo S lo base step j).put (lo + j) n y).ns (lo + j + 1) = ptrN S.ns (lo + (j + 1)) := skel_ptrN hsk.out _
      rw [hp2] at hnx
      have hc0 : w1.cell? ⟨n.blk, 3, none⟩ = some (.pointer (ptrN S.ns (lo + (j + 1)))) := by
        have : prevOf pb ((spreadTo S lo base step j).put (lo + j) n y).ns (lo + j + 1) = some ⟨n.blk, 0, none⟩ := by
          have := skel_prevOf (skel_set (ns := (spreadTo S lo base step j).ns) hn y) pb (lo + j + 1)
          exact this.trans (by simp [prevOf, ptrN, hn])
        rw [this] at hb
        simp only [Option.some.injEq, Addr.mk.injEq] at hb
        obtain ⟨rfl, rfl, _⟩ := hb
        exact hnx
      have HL1 : Hid (Lies w1 pb ((spreadTo S lo base step j).put (lo + j) n y)) := hL1
      have HT1 : Hid (Turn (Own pb (spreadTo S lo base step j)) wr w1) := hT1
      clear hb hnx hp2 hL1 hT1 hwrite
      go_wp2
      go_roundw
      case rel =>
        refine ⟨j + 1, by omega, ?_, rfl, by go_num, ?_, ?_⟩
        · rw [Hye.out]
        · rw [hsu.out]; exact HL1.out
        · exact HT.out.trans (HT1.out.mono (fun k _ hk => Hown.out k hk))
      case measure => simp [intOf]; omega
    · go_wp2
      go_end0
      have e : j = cnt := by omega
      subst e
      exact ⟨rfl, hL, hT⟩

end Go.Proofs.Ytkppcnednfjbhaa
