/- What Len, place and Clone of the program answer. -/
import Derived.Test.YtoabgmpcdnikeaaGreatDoorText
namespace Go.Proofs.YtoabgmpcdnikeaaGreatDoor
open Go.RowKit
set_option linter.unusedVariables false

/-- What Len answers. -/
def lans (l : List UInt8) : Int × Int := if (tans l).2 = 0 then (((scan l).1.length : Int), 0) else (0, (tans l).2)

theorem tans_ok {l : List UInt8} (h : (tans l).2 = 0) : l.length ≤ 16384 ∧ l = bytes (scan l).1 ∧ (∀ r ∈ (scan l).1, Ch r) := by
  unfold tans at h
  split at h
  · simp at h
  · rename_i h1
    unfold bans at h
    split at h
    · rename_i h2
      have h3 := scan_spec l
      refine ⟨by omega, ?_, h3.2.1⟩
      rw [h2, List.append_nil] at h3
      exact h3.1
    · simp at h

theorem scan_bytes {rs : List Nat} (hc : ∀ r ∈ rs, Ch r) : scan (bytes rs) = (rs, []) := by
  have := scan_of (rest := []) hc first_nil
  rwa [List.append_nil] at this

set_option maxRecDepth 100000 in
set_option maxHeartbeats 1000000 in
theorem len_bad (w : World) (s : ByteArray) (h : (tans s.data.toList).2 ≠ 0) :
    Calls Tryz.prog 85 #[.string s] w fun e w' => e = .returned (.tuple #[.int .i64 0, .int .i64 (tans s.data.toList).2]) ∧ Below w.heap.size w w' := by
  have ht := text_any w s
  have h1 : ((tans s.data.toList).2 != 0) = true := bne_iff_ne.2 h
  generalize tans s.data.toList = p at *
  go_enter Tryz.func85, Tryz.ntmps85
  go_wp2_with fail
  refine ht.mono ?_
  rintro e w' ⟨rfl, hb⟩
  go_wp2
  go_ret2
  exact ⟨rfl, hb⟩

set_option maxRecDepth 100000 in
set_option maxHeartbeats 1000000 in
theorem len_walk (w : World) (s : ByteArray) (rs : List Nat) (hs : s.data.toList = bytes rs) (hc : ∀ r ∈ rs, Ch r) (h : s.size ≤ 16384) (ht0 : (tans s.data.toList).2 = 0) :
    Calls Tryz.prog 85 #[.string s] w fun e w' => e = .returned (.tuple #[.int .i64 (rs.length : Int), .int .i64 0]) ∧ Below w.heap.size w w' := by
  have ht := text_any w s
  rw [ht0] at ht
  generalize (tans s.data.toList).1 = p at *
  have hl := size_list s
  have HS : Hid (scan s.data.toList = (rs, [])) := by rw [hs]; exact scan_bytes hc
  have hrl : rs.length ≤ s.size := by rw [← hl, hs]; exact bytes_length_ge rs
  clear hs hc ht0
  go_enter Tryz.func85, Tryz.ntmps85
  go_wp2_with fail
  refine ht.mono ?_
  rintro e W ⟨rfl, hbW⟩
  have HBW : Hid (Below w.heap.size w W) := hbW
  have hWs := hbW.size
  clear hbW
  go_wp2
  go_loopw [6] (fun v wr => ∃ (a b : List Nat), Hid (rs = a ++ b) ∧ v = .int .i64 (a.length : Int) ∧ a.length ≤ s.size ∧ wr.heap[W.heap.size]? = some (.stringIter s (bytes a).length) ∧ Hid (Below W.heap.size W wr)) (fun _ wr => s.size - wr.iterPos W.heap.size)
  case atStart => exact ⟨[], rs, rfl, rfl, by simp, World.iter_heap W s 0, below_new W _⟩
  case round =>
    obtain ⟨a, b, hab, rfl, hal0, hit, hbw⟩ := hrel
    have hszr : W.heap.size < wr.heap.size := (Array.getElem?_eq_some_iff.1 hit).1
    have hsc : (scan s.data.toList).1 = a ++ b := by rw [HS.out]; exact hab.out
    by_cases hp : (bytes a).length < s.size
    · have hnx : ∀ ty, (Instr.next (.pointer (some ⟨W.heap.size, 0, none⟩)) true ty).run Tryz.prog wr = _ := fun ty => Lib.run_next_any_at wr W.heap.size s (bytes a).length ty hit hp
      have hit1 := Lib.iterAt_heap wr W.heap.size s (bytes a).length ((bytes a).length + (Utf8.decode s (bytes a).length).2) hit
      have hbw1 : Hid (Below W.heap.size W (wr.iterAt W.heap.size s ((bytes a).length + (Utf8.decode s (bytes a).length).2))) := Lib.below_iterAt hbw.out (Nat.le_refl _) s _
      have hst := scan_step hsc (by rw [hl]; exact hp)
      rcases hst with ⟨r, b', rfl, hr, hf, hsc2, hlen, hle⟩ | ⟨rfl, hf, hne, hans⟩
      · have hdec : Utf8.decode s (bytes a).length = (r, (enc r).length) := by
          obtain ⟨_, _, t, ht⟩ := first_some hf
          exact decode_enc hr ht
        rw [hdec] at hnx hit1 hbw1
        rw [← hlen] at hnx hit1 hbw1
        have HSC : Hid (rs = (a ++ [r]) ++ b') := by rw [HS.out] at hsc2; exact hsc2
        have hpl : (bytes a).length < (bytes (a ++ [r])).length := by have := enc_pos r; omega
        have hal : (a ++ [r]).length = a.length + 1 := by simp
        have hal2 : a.length + 1 ≤ s.size := by
          have := congrArg List.length HSC.out
          simp only [List.length_append, List.length_cons, List.length_nil] at this
          omega
        generalize wr.iterAt W.heap.size s (bytes (a ++ [r])).length = W1 at *
        clear hsc hf hsc2 hdec hbw hle hlen HS hab
        go_wp2
        go_roundw
        case rel => exact ⟨a ++ [r], b', HSC, congrArg _ (by omega), by omega, hit1, hbw1⟩
        case measure =>
          simp only [World.iterPos, hit1, hit]
          omega
      · rw [HS.out] at hne
        exact absurd rfl hne
    · have hnx : ∀ ty, (Instr.next (.pointer (some ⟨W.heap.size, 0, none⟩)) true ty).run Tryz.prog wr = _ := fun ty => Lib.run_next_end_at wr W.heap.size s (bytes a).length ty hit hp
      have he := (scan_end hsc (by rw [hl]; exact hp)).1
      have hfin : (a.length : Int) = (rs.length : Int) := by rw [hab.out, he, List.append_nil]
      clear hab he HS hsc
      go_wp2
      go_ret2
      exact ⟨congrArg _ (v_two hfin rfl), HBW.out.trans (hbw.out.mono hWs)⟩

theorem len_any (w : World) (s : ByteArray) :
    Calls Tryz.prog 85 #[.string s] w fun e w' => e = .returned (.tuple #[.int .i64 (lans s.data.toList).1, .int .i64 (lans s.data.toList).2]) ∧ Below w.heap.size w w' := by
  by_cases h : (tans s.data.toList).2 = 0
  · obtain ⟨h1, h2, h3⟩ := tans_ok h
    rw [size_list] at h1
    rw [lans, if_pos h]
    exact len_walk w s _ h2 h3 h1 h
  · rw [lans, if_neg h]
    exact len_bad w s h

end Go.Proofs.YtoabgmpcdnikeaaGreatDoor
