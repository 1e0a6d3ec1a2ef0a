/- The normal form of a forest, in plain: texts side by side are one, empty ones go; it prints the same, it is as Parse makes it, it has no more nodes. -/
import Derived.Test.YtmifejkddgcbmaaGreatB06
import Derived.Deep.RegionHeld3
import Derived.OwnWalk
namespace Go.Proofs.YtmifejkddgcbmaaGreat
open Go.RowKit
set_option linter.unusedVariables false
set_option linter.unusedSimpArgs false

/-- A text made longer. -/
def putT {m : Nat} (x : T (m + 1)) (s : ByteArray) : T (m + 1) := ({ (x : Nd (T m)) with text := x.text ++ s } : Nd (T m))
/-- A text behind siblings. -/
def joinP {m : Nat} (out : List (T (m + 1))) (s : ByteArray) : List (T (m + 1)) :=
  if s.data.toList = [] then out else match out.getLast? with
    | some x => if kindT (m + 1) x = 2 then out.dropLast ++ [putT x s] else out ++ [txtT s.data.toList]
    | none => out ++ [txtT s.data.toList]
/-- How long the last one's text is. -/
def lastLen {m : Nat} (out : List (T (m + 1))) : Nat := match out.getLast? with
  | some x => (x : Nd (T m)).text.size
  | none => 0
/-- One more. -/
def normStep (n m : Nat) (f : List (T n) → Option (List (T m))) (out : List (T (m + 1))) (t : T (n + 1)) : Option (List (T (m + 1))) :=
  if t.kind = 2 then (if 16384 < lastLen (joinP out t.text) then none else some (joinP out t.text))
  else match f t.kids with
    | none => none
    | some ks => some (out ++ [elT t.name.data.toList t.attrs ks])
def normG {α β : Type} (step : List β → α → Option (List β)) : List α → List β → Option (List β)
  | [], out => some out
  | t :: r, out => match step out t with
    | none => none
    | some o => normG step r o
/-- The normal form, of at most so many levels; none, if a text is too long. -/
def nrm : (n m : Nat) → List (T n) → Option (List (T m))
  | 0, _, _ => some []
  | _ + 1, 0, _ => some []
  | n + 1, m + 1, L => normG (normStep n m (nrm n m)) L []

theorem vx_of {x : Bs} (h : (tans x).2 = 0) : Vx x := by
  obtain ⟨-, h2, h3⟩ := tans_ok h
  exact ⟨_, h2, h3⟩
theorem bytes_app (a b : List Nat) : bytes (a ++ b) = bytes a ++ bytes b := by simp [bytes]
theorem scan_app {x y : Bs} (hx : (tans x).2 = 0) (hy : (tans y).2 = 0) : (scan (x ++ y)).1 = (scan x).1 ++ (scan y).1 := by
  obtain ⟨-, h2, h3⟩ := tans_ok hx
  obtain ⟨-, k2, k3⟩ := tans_ok hy
  have h := scan_of (rs := (scan x).1 ++ (scan y).1) (rest := []) (fun r hr => by
    rcases List.mem_append.1 hr with hr | hr
    · exact h3 r hr
    · exact k3 r hr) first_nil
  rw [List.append_nil, bytes_app, ← h2, ← k2] at h
  rw [h]
theorem eans_app {x y : Bs} (hx : (tans x).2 = 0) (hy : (tans y).2 = 0) (hxy : (tans (x ++ y)).2 = 0) : (eans false (x ++ y)).1 = (eans false x).1 ++ (eans false y).1 := by
  rw [(eans_piece hx).1, (eans_piece hy).1, (eans_piece hxy).1, scan_app hx hy, List.flatMap_append]

theorem noTwo_last {n : Nat} : ∀ (A : List (T n)) (x : T n), noTwo n (A ++ [x]) → kindT n x = 2 → noTwo n A ∧ lastEl n A
  | [], x, _, _ => ⟨trivial, fun t ht => by simp at ht⟩
  | [a], x, h, hx => ⟨trivial, fun t ht e => h.1 ⟨by simp at ht; subst ht; exact e, hx⟩⟩
  | a :: b :: r, x, h, hx => by
    obtain ⟨h1, h2⟩ := noTwo_last (b :: r) x h.2 hx
    exact ⟨⟨h.1, h1⟩, fun t ht => h2 t (by simpa using ht)⟩

theorem prF_snoc {n : Nat} (A : List (T n)) (x : T n) : prF n (A ++ [x]) = prF n A ++ prT n x := by simp [prF]
theorem sum_snoc {n : Nat} (A : List (T n)) (x : T n) : ((A ++ [x]).map (cnt n)).sum = (A.map (cnt n)).sum + cnt n x := by simp
theorem dropLast_snoc {α : Type} {l : List α} {x : α} (h : l.getLast? = some x) : l.dropLast ++ [x] = l := by
  obtain ⟨hne, hx⟩ : ∃ h : l ≠ [], l.getLast h = x := by
    cases l with
    | nil => simp at h
    | cons a r => exact ⟨by simp, by rw [List.getLast?_eq_some_getLast (by simp)] at h; exact Option.some.inj h⟩
  rw [← hx]
  exact List.dropLast_concat_getLast hne

structure StepQ (n m : Nat) (out : List (T (m + 1))) (t : T (n + 1)) (o : List (T (m + 1))) : Prop where
  pr : prF (m + 1) o = prF (m + 1) out ++ prT (n + 1) t
  can : Canon (m + 1) o
  sum : (o.map (cnt (m + 1))).sum ≤ (out.map (cnt (m + 1))).sum + cnt (n + 1) t
  nil : o = [] ↔ out = [] ∧ hollowP (n + 1) [t] = true

theorem cnt_pos {n : Nat} (t : T (n + 1)) : 1 ≤ cnt (n + 1) t := by rw [cnt]; omega

theorem hollow_el {n : Nat} {t : T (n + 1)} (h : t.kind ≠ 2) : hollowP (n + 1) [t] = false := by
  simp only [hollowP, List.all_cons, List.all_nil, Bool.and_true]
  have : decide ((headT (n + 1) t).1 = 2) = false := decide_eq_false h
  rw [this]; rfl
theorem hollow_txt {n : Nat} {t : T (n + 1)} (h : t.kind = 2) : hollowP (n + 1) [t] = true ↔ t.text.data.toList = [] := by
  simp only [hollowP, List.all_cons, List.all_nil, Bool.and_true]
  have h1 : decide ((headT (n + 1) t).1 = 2) = true := decide_eq_true h
  rw [h1, Bool.true_and, beq_iff_eq]
  show t.text.toList = [] ↔ _
  rw [ByteArray.toList_eq]

theorem join_spec {n m : Nat} {out : List (T (m + 1))} {t : T (n + 1)} (hc : Canon (m + 1) out) (hk : t.kind = 2) (ht : (tans t.text.data.toList).2 = 0) (hl : ¬ 16384 < lastLen (joinP out t.text)) : StepQ n m out t (joinP out t.text) := by
  have hpt : prT (n + 1) t = (eans false t.text.data.toList).1 := by rw [prT, if_pos hk]
  by_cases hs : t.text.data.toList = []
  · have hj : joinP out t.text = out := by unfold joinP; rw [if_pos hs]
    rw [hj]
    refine ⟨by rw [hpt, hs, eans_nil, List.append_nil], hc, by omega, by rw [hollow_txt hk]; exact ⟨fun h => ⟨h, hs⟩, fun h => h.1⟩⟩
  · have hnew : lastEl (m + 1) out → StepQ n m out t (out ++ [txtT t.text.data.toList]) := fun hle => by
      obtain ⟨c1, c2, c3⟩ := txt_can (d := m) ht hs
      refine ⟨?_, hc.snoc c1 c2 (.inr hle), ?_, ?_⟩
      · rw [prF_snoc, hpt]
        refine congrArg _ ?_
        show (if (2 : Int) = 2 then _ else _) = _
        rw [if_pos rfl]
        rfl
      · rw [sum_snoc, c3]; have := cnt_pos t; omega
      · rw [hollow_txt hk]
        exact ⟨fun h => by simp at h, fun h => absurd h.2 hs⟩
    cases hg : out.getLast? with
    | none =>
      have hj : joinP out t.text = out ++ [txtT t.text.data.toList] := by unfold joinP; rw [if_neg hs, hg]
      rw [hj]
      exact hnew (fun x hx => by rw [hg] at hx; cases hx)
    | some x =>
      by_cases hx2 : kindT (m + 1) x = 2
      · have hj : joinP out t.text = out.dropLast ++ [putT x t.text] := by unfold joinP; rw [if_neg hs, hg]; simp only [if_pos hx2]
        rw [hj] at hl ⊢
        have hout := dropLast_snoc hg
        have hxm : x ∈ out := by rw [← hout]; simp
        obtain ⟨hcx, hox⟩ := hc.1 x hxm
        have hx2' : x.kind = 2 := hx2
        have hxe : x = txtT x.text.data.toList := by
          rcases hcx with ⟨-, h, -⟩ | ⟨h, -⟩
          · exact h
          · omega
        have htx : (tans x.text.data.toList).2 = 0 := by
          have h := hox.2.1
          unfold ownE at h
          rw [if_neg (by omega), if_pos hx2'] at h
          exact h
        have hle : (x.text.data.toList ++ t.text.data.toList).length ≤ 16384 := by
          simp only [lastLen, List.getLast?_append, List.getLast?_singleton, Option.some_or] at hl
          have h1 : (putT x t.text).text.size = x.text.size + t.text.size := ByteArray.size_append
          have h2 : (x.text.data.toList ++ t.text.data.toList).length = x.text.size + t.text.size := by rw [List.length_append, size_list, size_list]
          omega
        have hvx := (vx_of htx).append (vx_of ht)
        have htt := hvx.tans hle
        have hne : x.text.data.toList ++ t.text.data.toList ≠ [] := by simp [hs]
        have hdat : (x.text ++ t.text).data.toList = x.text.data.toList ++ t.text.data.toList := by simp
        have hnewx : putT x t.text = txtT (x.text.data.toList ++ t.text.data.toList) := by
          conv => lhs; rw [hxe]
          show (⟨2, ba [], [], ba x.text.data.toList ++ t.text, []⟩ : Nd (T m)) = ⟨2, ba [], [], ba (x.text.data.toList ++ t.text.data.toList), []⟩
          rw [ba_data, ← hdat, ba_data]
        rw [hnewx]
        obtain ⟨c1, c2, c3⟩ := txt_can (d := m) htt hne
        have hcd : Canon (m + 1) out.dropLast ∧ lastEl (m + 1) out.dropLast := by
          have h2 := hc.2
          rw [← hout] at h2
          obtain ⟨h3, h4⟩ := noTwo_last _ _ h2 hx2
          exact ⟨⟨fun y hy => hc.1 y (by rw [← hout]; exact List.mem_append_left _ hy), h3⟩, h4⟩
        have hprx : prT (m + 1) x = (eans false x.text.data.toList).1 := by rw [prT, if_pos hx2']
        refine ⟨?_, hcd.1.snoc c1 c2 (.inr hcd.2), ?_, ?_⟩
        · have hprn : prT (m + 1) (txtT (x.text.data.toList ++ t.text.data.toList) : T (m + 1)) = (eans false (x.text.data.toList ++ t.text.data.toList)).1 := by
            show (if (2 : Int) = 2 then _ else _) = _
            rw [if_pos rfl]
            rfl
          conv => rhs; rw [← hout]
          rw [prF_snoc, prF_snoc, hprn, hpt, hprx, eans_app htx ht htt, List.append_assoc]
        · conv => rhs; rw [← hout]
          rw [sum_snoc, sum_snoc, c3]
          have := cnt_pos x
          omega
        · refine ⟨fun h => by simp at h, fun h => ?_⟩
          rw [h.1] at hg
          cases hg
      · have hj : joinP out t.text = out ++ [txtT t.text.data.toList] := by unfold joinP; rw [if_neg hs, hg]; simp only [if_neg hx2]
        rw [hj]
        exact hnew (fun y hy => by rw [hg] at hy; cases hy; exact hx2)

def NrmQ (n m : Nat) (L : List (T n)) (N : List (T m)) : Prop := prF m N = prF n L ∧ Canon m N ∧ (N.map (cnt m)).sum ≤ (L.map (cnt n)).sum ∧ (N = [] ↔ hollowP n L = true)

theorem step_spec {n m : Nat} {f : List (T n) → Option (List (T m))} (ih : ∀ L N, (∀ t ∈ L, okD n m t) → f L = some N → NrmQ n m L N) {out o : List (T (m + 1))} {t : T (n + 1)} (hc : Canon (m + 1) out) (hok : okD (n + 1) (m + 1) t) (h : normStep n m f out t = some o) : StepQ n m out t o := by
  have hown := hok.2.1
  unfold normStep at h
  by_cases hk : t.kind = 2
  · rw [if_pos hk] at h
    split at h
    · cases h
    · rename_i hl
      cases h
      have ht : (tans t.text.data.toList).2 = 0 := by
        unfold ownE at hown
        rw [if_neg (by omega), if_pos hk] at hown
        exact hown
      exact join_spec hc hk ht hl
  · rw [if_neg hk] at h
    have hk1 : t.kind = 1 := by
      unfold ownE at hown
      by_cases h1 : t.kind = 1
      · exact h1
      · rw [if_neg h1, if_neg hk] at hown; cases hown
    have hkT : kidsT t = t.kids := if_pos hk1
    split at h
    · cases h
    · rename_i ks hks
      cases h
      obtain ⟨i1, i2, i3, i4⟩ := ih _ _ (fun k hkk => by
        have := hok.2.2 k (by rw [hkT]; exact hkk)
        rwa [Nat.add_sub_cancel] at this) hks
      have hkE : kidsT (elT t.name.data.toList t.attrs ks : T (m + 1)) = ks := if_pos rfl
      have hownE : ownE (elT t.name.data.toList t.attrs ks : T (m + 1)) = 0 := by
        unfold ownE at hown
        rw [if_pos hk1] at hown
        show (if (1 : Int) = 1 then _ else _) = _
        rw [if_pos rfl]
        exact hown
      refine ⟨?_, hc.snoc (.inr ⟨rfl, rfl, fun k hkk => (i2.1 k hkk).1, i2.2⟩) ⟨by omega, hownE, fun k hkk => ?_⟩ (.inl (by show (1 : Int) ≠ 2; decide)), ?_, ?_⟩
      · rw [prF_snoc]
        refine congrArg _ ?_
        have hpe : prT (n + 1) t = prH t.name t.attrs ++ (if hollowP n t.kids then [47, 62] else [62] ++ t.kids.flatMap (prT n) ++ ([60, 47] ++ t.name.data.toList ++ [62])) := by rw [prT, if_neg hk]
        rw [hpe]
        show (if (1 : Int) = 2 then _ else _) = _
        rw [if_neg (by decide)]
        have hho : hollowP m ks = hollowP n t.kids := by
          rw [Bool.eq_iff_iff, hollow_nil (fun k hkk => (i2.1 k hkk).1), i4]
        have hpk : ks.flatMap (prT m) = t.kids.flatMap (prT n) := i1
        show prH (ba t.name.data.toList) t.attrs ++ (if hollowP m ks = true then [47, 62] else [62] ++ ks.flatMap (prT m) ++ ([60, 47] ++ (ba t.name.data.toList).data.toList ++ [62])) = _
        rw [hho, hpk, ba_data]
      · rw [hkE] at hkk
        rw [Nat.add_sub_cancel]
        exact (i2.1 k hkk).2
      · rw [sum_snoc]
        have e1 : cnt (m + 1) (elT t.name.data.toList t.attrs ks : T (m + 1)) = 1 + (ks.map (cnt m)).sum := by rw [cnt, hkE]
        have e2 : cnt (n + 1) t = 1 + (t.kids.map (cnt n)).sum := by rw [cnt, hkT]
        rw [e1, e2]
        omega
      · rw [hollow_el hk]
        simp

theorem normG_spec {n m : Nat} {f : List (T n) → Option (List (T m))} (ih : ∀ L N, (∀ t ∈ L, okD n m t) → f L = some N → NrmQ n m L N) : ∀ (L : List (T (n + 1))) (out N : List (T (m + 1))), Canon (m + 1) out → (∀ t ∈ L, okD (n + 1) (m + 1) t) → normG (normStep n m f) L out = some N →
    prF (m + 1) N = prF (m + 1) out ++ prF (n + 1) L ∧ Canon (m + 1) N ∧ (N.map (cnt (m + 1))).sum ≤ (out.map (cnt (m + 1))).sum + (L.map (cnt (n + 1))).sum ∧ (N = [] ↔ out = [] ∧ hollowP (n + 1) L = true)
  | [], out, N, hc, hok, h => by
    rw [normG] at h
    cases h
    exact ⟨by simp [prF], hc, by simp, by simp [hollowP]⟩
  | t :: r, out, N, hc, hok, h => by
    rw [normG] at h
    split at h
    · cases h
    · rename_i o ho
      have hs := step_spec ih hc (hok t (by simp)) ho
      obtain ⟨i1, i2, i3, i4⟩ := normG_spec ih r o N hs.can (fun x hx => hok x (List.mem_cons_of_mem _ hx)) h
      refine ⟨by rw [i1, hs.pr, prF_cons, List.append_assoc], i2, ?_, ?_⟩
      · have := hs.sum
        simp only [List.map_cons, List.sum_cons]
        omega
      · rw [i4, hs.nil]
        simp only [hollowP, List.all_cons, List.all_nil, Bool.and_true, Bool.and_eq_true, and_assoc]

theorem nrm_spec : ∀ (n m : Nat) (L : List (T n)) (N : List (T m)), (∀ t ∈ L, okD n m t) → nrm n m L = some N → NrmQ n m L N
  | 0, m, L, N, hok, h => by
    have hL : L = [] := by
      cases L with
      | nil => rfl
      | cons t r => exact (t : Empty).elim
    subst hL
    simp only [nrm] at h
    cases h
    exact ⟨by simp [prF], ⟨fun t ht => by simp at ht, trivial⟩, by simp, by simp [hollowP]⟩
  | n + 1, 0, L, N, hok, h => by
    have hL : L = [] := by
      cases L with
      | nil => rfl
      | cons t r => exact absurd (hok t (by simp)).1 (by omega)
    subst hL
    simp only [nrm] at h
    cases h
    exact ⟨by simp [prF], ⟨fun t ht => by simp at ht, trivial⟩, by simp, by simp [hollowP]⟩
  | n + 1, m + 1, L, N, hok, h => by
    rw [nrm] at h
    obtain ⟨h1, h2, h3, h4⟩ := normG_spec (nrm_spec n m) L [] N ⟨fun t ht => by simp at ht, trivial⟩ hok h
    exact ⟨by simpa [prF] using h1, h2, by simpa using h3, by simpa using h4⟩

/-- There and back, in plain: the normal form of what is printed is what is read, and it prints the same. -/
theorem back_plain {n : Nat} {L : List (T n)} {N : List (T 64)} (hp : (printP n L).2 = 0) (hn : nrm n 64 L = some N) : (prF 64 N).length ≤ 262144 ∧ parseP (prF 64 N) = .inl N ∧ printP n L = (prF 64 N, 0) ∧ printP 64 N = (prF 64 N, 0) ∧ Canon 64 N := by
  unfold printP at hp
  have hf : forE n L = 0 := by
    by_cases h : forE n L = 0
    · exact h
    · rw [if_neg h] at hp; exact absurd hp h
  rw [if_pos hf] at hp
  have hle : ¬ 262144 < (prF n L).length := by
    intro h
    rw [if_pos h] at hp
    cases hp
  have hcf : chkF n L = 0 := by
    unfold forE at hf
    split at hf
    · assumption
    · exact hf
  have hsm : (L.map (cnt n)).sum ≤ 4096 := by
    unfold forE at hf
    rw [if_pos hcf] at hf
    by_cases h : 4096 < (L.map (cnt n)).sum
    · rw [if_pos h] at hf; cases hf
    · omega
  obtain ⟨h1, h2, h3, h4⟩ := nrm_spec n 64 L N (fun k hk => chk_okD n k 1 0 (chkF_mem L hcf k hk)) hn
  have hle2 : (prF 64 N).length ≤ 262144 := by rw [h1]; omega
  have hs2 : (N.map (cnt 64)).sum ≤ 4096 := by omega
  obtain ⟨-, hf2⟩ := made_chk h2 hs2
  refine ⟨hle2, parse_print h2 hs2 hle2, ?_, ?_, h2⟩
  · unfold printP
    rw [if_pos hf, if_neg hle, h1]
  · unfold printP
    rw [if_pos hf2, if_neg (by omega)]

end Go.Proofs.YtmifejkddgcbmaaGreat

/- A list of trees under way, in a row of one's own: one more behind; the last one's text made longer. -/
namespace Go.Proofs.YtmifejkddgcbmaaGreat
open Go.RowKit
set_option linter.unusedVariables false
set_option linter.unusedSimpArgs false

/-- append as a step of a statement whose order is open. -/
theorem step_app {P : Program} {t e : TypeId} {z : Value} {size bytes : Nat} {w : World} {ops : Array Oper} {o : Oper} {ac : Act} {K : Act → World → Prop} {Q : Exit → Act → World → Prop} {E : Prop} (hgd : o.guard = none) (s x : Operand)
    (ho : o.op = .call { callee := .builtin .append, args := #[s, x], argTypes := #[t, t] }) (ht : P.underlying t = some (.slice e)) (hi : InfoOf P e z size bytes) (hzs : z.cells.size = size) (hsz : 0 < size)
    (base : Nat) (v : Value) (n : Nat) (xs : List Value) (hs : ac.eval s = v) (hown : w.ownsRow base e size v n xs) (a : Option Addr) (m c : Nat) (news : List Value) (hx : ac.eval x = .slice a m c) (hl : news.length = m * size)
    (hnews : ∀ j u, news[j]? = some u → ∃ ad, a = some ad ∧ w.cell? (ad.add j) = some u) (h1 : ∀ u ∈ news, u.oneCell' = true) (h63 : n + m ≤ maxLen) (hbytes : (n + m) * bytes ≤ 140737488355328) (hbase : base ≤ w.heap.size)
    (hK : ∀ v' w', w'.ownsRow base e size v' (n + m) (xs ++ news) → w.grownBy w' v.ownBlock → (v' = .slice none 0 0 ↔ v = .slice none 0 0 ∧ m = 0) → (v'.ownBlock = v.ownBlock ∨ v'.ownBlock = some w.heap.size) → K (ac.put o.dst v') w') :
    if Region.wanted o (yielded ops ac.tmps) = true then Oper.wp P o ac w K Q else E := by
  have hw : Region.wanted o (yielded ops ac.tmps) = true := by simp [Region.wanted, hgd]
  rw [if_pos hw]
  obtain ⟨v', w', hr, h2, h3, h4, h5⟩ := run_app (ty := o.type) ht hi hzs hsz w base v n xs hown a m c news hl hnews h1 h63 hbytes hbase
  unfold Oper.wp execOp
  simp only [ho, resolve, invoke, builtin, Sem.run_bind, Sem.run_pure, Result.andThen_ok, List.map_toArray, List.map_cons, List.map_nil, hs, hx, hr]
  exact hK v' w' h2 h3 h4 h5

/-- make, of a row with room, as such a step. -/
theorem step_make {P : Program} {t e : TypeId} {z : Value} {size bytes : Nat} {w : World} {ops : Array Oper} {o : Oper} {ac : Act} {K : Act → World → Prop} {Q : Exit → Act → World → Prop} {E : Prop} (hgd : o.guard = none) (l c : Operand)
    (ho : o.op = .makeSlice t l c) (ht : P.underlying t = some (.slice e)) (hi : InfoOf P e z size bytes) (base : Nat) (kl kc : IntKind) (C : Int) (n : Nat) (hl : ac.eval l = .int kl 0) (hc : ac.eval c = .int kc C) (hC : C = (n : Int))
    (hb : bytes * n ≤ 281474976710656) (h63 : n ≤ maxLen) (hbase : base ≤ w.heap.size)
    (hK : ∀ w', w'.ownsRow base e size (.slice (some ⟨w.heap.size, 0, none⟩) 0 n) 0 [] → w.grownBy w' none → K (ac.put o.dst (.slice (some ⟨w.heap.size, 0, none⟩) 0 n)) w') :
    if Region.wanted o (yielded ops ac.tmps) = true then Oper.wp P o ac w K Q else E := by
  have hw : Region.wanted o (yielded ops ac.tmps) = true := by simp [Region.wanted, hgd]
  rw [if_pos hw]
  obtain ⟨i, hi0, hz0, hz1, hz2⟩ := hi.parts
  obtain ⟨w', hr, h2, h3⟩ := run_make_own (P := P) w base t e i z size ht hi0 hz0 hz1 kl kc n (by rw [hz2]; exact hb) h63 hbase
  subst hC
  unfold Oper.wp execOp
  simp [ho, hl, hc, hr]
  exact hK w' h2 h3

structure OutSt (w wr : World) (m : Nat) (N : List (T m)) (c : Nat) (la : Option Addr) (lcap : Nat) (xs : List Value) : Prop where
  len : N.length = c
  own : wr.ownsRow w.heap.size 40 5 (.slice la c lcap) c xs
  kids : CopiesAt wr (fun b => w.heap.size ≤ b ∧ b < wr.heap.size ∧ (Value.slice la c lcap).ownBlock ≠ some b) m xs N
  bel : Below w.heap.size w wr

theorem OutSt.nil (w : World) (m : Nat) : OutSt w w m [] 0 none 0 [] := ⟨rfl, ⟨rfl, .inl ⟨rfl, rfl⟩⟩, CopiesAt.nil _ _ _, Below.refl _ _⟩
theorem OutSt.made {w wr : World} {m lcap : Nat} {la : Option Addr} (hown : wr.ownsRow w.heap.size 40 5 (.slice la 0 lcap) 0 []) (hb : Below w.heap.size w wr) : OutSt w wr m [] 0 la lcap [] := ⟨rfl, hown, CopiesAt.nil _ _ _, hb⟩

theorem OutSt.below {w wr w2 : World} {m : Nat} {N : List (T m)} {c : Nat} {la : Option Addr} {lcap : Nat} {xs : List Value} (h : OutSt w wr m N c la lcap xs) (hb : Below wr.heap.size wr w2) : OutSt w w2 m N c la lcap xs := by
  have hs := hb.size
  have hbl := h.bel.size
  refine ⟨h.len, own_of_block h.own (fun k hk => hb.block k (own_block_lt h.own k hk).2), h.kids.to (fun b hb' => ⟨hb'.1, by omega, hb'.2.2⟩) (fun b o hb' => hb.cell (p := ⟨b, o, none⟩) hb'.2.1), h.bel.trans (hb.mono hbl)⟩

/-- One more. -/
theorem OutSt.step {w wr w2 w3 : World} {m : Nat} {N : List (T m)} {c : Nat} {la : Option Addr} {lcap : Nat} {xs : List Value} (h : OutSt w wr m N c la lcap xs) {k : T m}
    {u : Array Value} (hu : TreeAt w2 wr.heap.size w2.heap.size m u k) (hb : Below wr.heap.size wr w2) {o : Obj} {la' : Option Addr} {lcap' : Nat} (hown : w3.ownsRow w.heap.size 40 5 (.slice la' (c + 1) lcap') (c + 1) (xs ++ u.toList))
    (hg : (w2.alloc o).grownBy w3 (Value.slice la c lcap).ownBlock) (hat : (Value.slice la' (c + 1) lcap').ownBlock = (Value.slice la c lcap).ownBlock ∨ (Value.slice la' (c + 1) lcap').ownBlock = some (w2.heap.size + 1)) :
    OutSt w w3 m (N ++ [k]) (c + 1) la' lcap' (xs ++ u.toList) := by
  have hs := hb.size
  have hs3 : w2.heap.size + 1 ≤ w3.heap.size := by have := hg.size; simpa using this
  have hbl := h.bel.size
  have hox := own_block_lt h.own
  have far : ∀ b, b < w2.heap.size → (Value.slice la c lcap).ownBlock ≠ some b → w3.heap[b]? = w2.heap[b]? := fun b hb1 hb2 =>
    (hg.block b (by simp; omega) (fun e => hb2 e.symm)).trans (Below.heap_alloc _ _ _ hb1)
  have far2 : ∀ b, b < wr.heap.size → (Value.slice la c lcap).ownBlock ≠ some b → w3.heap[b]? = wr.heap[b]? := fun b hb1 hb2 => (far b (by omega) hb2).trans (hb.block b hb1)
  have hnew : ∀ b, b < w2.heap.size → (Value.slice la c lcap).ownBlock ≠ some b → (Value.slice la' (c + 1) lcap').ownBlock ≠ some b := fun b h1 h2 e => by
    rcases hat with hat | hat
    · rw [hat] at e; exact h2 e
    · rw [hat] at e; simp only [Option.some.injEq] at e; omega
  refine ⟨by simp [h.len], hown, ?_, ?_⟩
  · refine CopiesAt.snoc (h.kids.to (fun b hb' => ⟨hb'.1, by omega, hnew b (by omega) hb'.2.2⟩) (fun b o hb' => World.cell?_of_block (w := wr) (a := ⟨b, o, none⟩) (far2 b hb'.2.1 hb'.2.2))) ?_
    have hne : ∀ b, wr.heap.size ≤ b → (Value.slice la c lcap).ownBlock ≠ some b := fun b h1 e => by have := hox _ e; omega
    exact hu.toR.to (fun b hb' => ⟨by omega, by omega, hnew b hb'.2 (hne b hb'.1)⟩) (fun b o hb' => World.cell?_of_block (w := w2) (a := ⟨b, o, none⟩) (far b hb'.2 (hne b hb'.1)))
  · exact (h.bel.trans (hb.mono hbl)).trans ⟨hg.os, hg.tape, hg.output, by omega, fun k hk => far k (by omega) (fun e => by have := hox _ e; omega)⟩

/-- What there is of it. -/
theorem OutSt.done {w wr : World} {m : Nat} {N : List (T m)} {c : Nat} {la : Option Addr} {lcap : Nat} {xs : List Value} (h : OutSt w wr m N c la lcap xs) : Tc.KidsAt wr w.heap.size wr.heap.size m la N ∧ c ≤ lcap := by
  obtain ⟨hlc, hxl, hrow⟩ := row_cell h.own
  refine ⟨fun i k hk => ?_, hlc⟩
  obtain ⟨_, _, hkids⟩ := h.kids
  obtain ⟨u, h1, h2, h3⟩ := hkids i k hk
  have hj : ∀ j, j < 5 → ∃ g, la = some ⟨g, 0, none⟩ ∧ w.heap.size ≤ g ∧ g < wr.heap.size ∧ wr.cell? ⟨g, i * 5 + j, none⟩ = u[j]? := fun j hj => by
    have hu := h2 j hj
    rw [Array.getElem?_eq_getElem (by omega)] at hu
    obtain ⟨g, e1, e2, e3, e4⟩ := hrow _ _ hu
    exact ⟨g, e1, e2, e3, by rw [e4, Array.getElem?_eq_getElem (by omega)]⟩
  obtain ⟨g, rfl, hg1, hg2, _⟩ := hj 0 (by omega)
  refine ⟨g, 0, u, rfl, by omega, by omega, h1, fun j hj' => ?_, (h3.to (R' := fun b => w.heap.size ≤ b ∧ b < wr.heap.size) (fun b hb => ⟨hb.1, hb.2.1⟩) (fun b o hb => rfl)).toAt⟩
  obtain ⟨g', e1, _, _, e4⟩ := hj j hj'
  cases e1
  rw [Nat.zero_add, e4]

end Go.Proofs.YtmifejkddgcbmaaGreat
