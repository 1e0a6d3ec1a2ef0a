/- linked: every link. -/
import Derived.Test.YtjkgjckkglfokaaLk1
import Derived.Test.YtjkgjckkglfokaaLk2
import Derived.Test.YtjkgjckkglfokaaLk4
namespace Go.Proofs.Ytjkgjckkglfokaa
open Go.RowKit Go.Shelf
set_option linter.unusedVariables false

/-- A link's list, in plain. -/
def lkd (kd ag : Int) (ms : List Int) (nl : Bool) (xs : List Int) : List Int :=
  if kd = 0 then (if nl then [] else xs.filter (dvd0 ag)) else if kd = 1 then xs.take ag.toNat else if kd = 2 then (if nl then [] else xs.map (fun x => wrap64 (x + ag))) else if kd = 3 then (if nl then [] else xs.flatMap (fun x => List.replicate (oft x) x)) else if kd = 4 then (if nl then xs else xs ++ ms) else xs
theorem NumsAt.b {W : World} {K : Nat → Prop} {a : Option Addr} {L : List Int} (h : NumsAt W K a L) : NumsB W a L := fun i x hx => by
  obtain ⟨g, o, h1, -, h2, h3⟩ := h i x hx
  exact ⟨g, o, h1, h2, h3⟩
theorem lkd_len {kd ag : Int} {ms : List Int} {nl : Bool} {xs : List Int} : (lkd kd ag ms nl xs).length ≤ xs.length * 3 + ms.length := by
  unfold lkd
  have h3 : (xs.flatMap (fun x => List.replicate (oft x) x)).length ≤ xs.length * 3 := by
    induction xs with
    | nil => simp
    | cons x r ih =>
      have : oft x ≤ 3 := by unfold oft; split <;> omega
      simp only [List.flatMap_cons, List.length_append, List.length_replicate, List.length_cons]
      omega
  have h0 := List.length_filter_le (dvd0 ag) xs
  split
  · split
    · simp
    · omega
  · split
    · rw [List.length_take]; omega
    · split
      · split
        · simp
        · rw [List.length_map]; omega
      · split
        · split
          · simp
          · omega
        · split
          · split
            · omega
            · rw [List.length_append]; omega
          · omega

theorem linked_any {gf : Nat} {lb : Array Value} {xs : List Int} {R T : Nat → Prop} {Sq : World → Prop} (hs : IsSeq Try.prog gf lb encI xs R T Sq) (eg : ∀ args w, (callFunc gf args).run Try.prog w = .ok (.enter gf args) w)
    (N : Nat) (W : World) (hq : Sq W) (la : Option Addr) (lc : Nat) (K : Nat → Prop) (hL : NumsAt W K la xs) (hKT : ∀ b, K b → ¬ T b ∧ b < W.heap.size) (hl : xs.length ≤ 1048576) (kd ag : Int) (ma : Option Addr) (mn mc : Nat) (nl : Bool)
    (ms : List Int) (hmn : mn = ms.length) (Km : Nat → Prop) (hM : NumsAt W Km ma ms) (hMT : ∀ b, Km b → ¬ T b ∧ b < W.heap.size) (hMN : ∀ b, Km b → b < N) (hml : ms.length ≤ 1048576) (hag : ag < 9223372036854775808) :
    Calls Try.prog 14 #[.func (.func gf) #[] lb, .slice la xs.length lc, .agg (LinkC kd ag ma mn mc nl)] W (LinkP N W R T K (lkd kd ag ms nl xs)) := by
  by_cases h0 : kd = 0
  · subst h0
    cases nl with
    | true => exact linked_only_nil hs eg N K W hq la lc hL.b hl ag ma mn mc
    | false => exact linked_only hs eg N K W hq la lc hL.b hl ag ma mn mc
  · by_cases h1 : kd = 1
    · subst h1
      exact linked_most hs eg N K W hq la lc hL.b hl ag ma mn mc nl hag
    · by_cases h2 : kd = 2
      · subst h2
        cases nl with
        | true => exact linked_map_nil hs eg N K W hq la lc hL.b hl ag ma mn mc
        | false => exact linked_map hs eg N K W hq la lc hL.b hl ag ma mn mc
      · by_cases h3 : kd = 3
        · subst h3
          cases nl with
          | true => exact linked_flat_nil hs eg N K W hq la lc hL.b hl ag ma mn mc
          | false => exact linked_flat hs eg N K W hq la lc hL.b hl ag ma mn mc
        · by_cases h4 : kd = 4
          · subst h4
            cases nl with
            | true => exact linked_then_nil hs eg N W hq la lc K hL hKT hl ag ma mn mc
            | false => exact linked_then hs eg N W hq la lc K hL hKT hl ag ma mn mc ms hmn Km hM hMT hMN hml
          · have e : lkd kd ag ms nl xs = xs := by simp [lkd, h0, h1, h2, h3, h4]
            rw [e]
            exact linked_else hs eg N W hq la lc K hL hKT kd ag ma mn mc nl h0 h1 h2 h3 h4

end Go.Proofs.Ytjkgjckkglfokaa
