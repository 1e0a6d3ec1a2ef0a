/- What Escape answers, the program's and the document's. -/
import Derived.Test.YtfccijpmgjcmiabBuild
import Derived.Test.YtfccijpmgjcmiabWords
namespace Go.Proofs.Ytfccijpmgjcmiab
open Go.RowKit
set_option linter.unusedVariables false

/-- What stands for a byte; empty: it stands for itself. -/
def escB (c : Nat) (q : Bool) : List UInt8 :=
  if c = 38 then [38, 97, 109, 112, 59] else if c = 60 then [38, 108, 116, 59] else if c = 62 then [38, 103, 116, 59] else if c = 13 then [38, 35, 49, 51, 59]
  else if q = true ∧ c = 34 then [38, 113, 117, 111, 116, 59] else if q = true ∧ c = 9 then [38, 35, 57, 59] else if q = true ∧ c = 10 then [38, 35, 49, 48, 59] else []
def esc1 (q : Bool) (b : UInt8) : List UInt8 := if escB b.toNat q = [] then [b] else escB b.toNat q
def escL (q : Bool) (l : List UInt8) : List UInt8 := l.flatMap (esc1 q)
/-- What Escape answers. -/
def eans (q : Bool) (l : List UInt8) : List UInt8 × Int × Int := if (tans l).2 = 0 then (escL q l, 0, 0) else ([], (tans l).1, (tans l).2)

theorem escB_length (c : Nat) (q : Bool) : (escB c q).length ≤ 6 := by
  unfold escB
  split
  · simp
  · split
    · simp
    · split
      · simp
      · split
        · simp
        · split
          · simp
          · split
            · simp
            · split <;> simp
theorem esc1_length (q : Bool) (b : UInt8) : (esc1 q b).length ≤ 6 := by
  unfold esc1
  split
  · simp
  · exact escB_length _ _
theorem escL_length (q : Bool) (l : List UInt8) : (escL q l).length ≤ 6 * l.length := by
  induction l with
  | nil => simp [escL]
  | cons b t ih =>
    have h1 := esc1_length q b
    simp only [escL, List.flatMap_cons, List.length_append, List.length_cons] at ih ⊢
    omega
theorem escL_snoc (q : Bool) (a : List UInt8) (b : UInt8) : escL q (a ++ [b]) = escL q a ++ esc1 q b := by simp [escL]

set_option maxRecDepth 100000 in
set_option maxHeartbeats 2000000 in
theorem escaped_any (w : World) (c : Nat) (hc : c < 256) (q : Bool) : Calls Try.prog 19 #[.int .u8 (c : Int), .bool q] w fun e w' => e = .returned (.string ⟨(escB c q).toArray⟩) ∧ w' = w := by
  have h38 : ((c : Int) == 38) = decide (c = 38) := by rw [Bool.eq_iff_iff]; simp; omega
  have h60 : ((c : Int) == 60) = decide (c = 60) := by rw [Bool.eq_iff_iff]; simp; omega
  have h62 : ((c : Int) == 62) = decide (c = 62) := by rw [Bool.eq_iff_iff]; simp; omega
  have h13 : ((c : Int) == 13) = decide (c = 13) := by rw [Bool.eq_iff_iff]; simp; omega
  have h34 : ((c : Int) == 34) = decide (c = 34) := by rw [Bool.eq_iff_iff]; simp; omega
  have h9 : ((c : Int) == 9) = decide (c = 9) := by rw [Bool.eq_iff_iff]; simp; omega
  have h10 : ((c : Int) == 10) = decide (c = 10) := by rw [Bool.eq_iff_iff]; simp; omega
  generalize hS : (⟨(escB c q).toArray⟩ : ByteArray) = S
  have HS : Hid ((⟨(escB c q).toArray⟩ : ByteArray) = S) := hS
  clear hS
  cases q
  all_goals go_enter Try.func19, Try.ntmps19
  all_goals go_wp2
  all_goals go_ret
  all_goals refine ⟨congrArg _ (v_str ?_), rfl⟩
  all_goals rw [← HS.out]
  all_goals clear HS h38 h60 h62 h13 h34 h9 h10
  all_goals simp_all [escB]

end Go.Proofs.Ytfccijpmgjcmiab
