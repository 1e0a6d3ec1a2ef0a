/- A node and all within it, in plain. -/
import Derived.Test.YtjkgjckkglfokabL06
namespace Go.Proofs.Ytjkgjckkglfokab.Gr
open Go.RowKit
set_option linter.unusedVariables false
set_option linter.unusedSimpArgs false

def alls (D : Dc) : Nat → Nat → List Nat
  | 0, _ => []
  | k + 1, h => h :: (lst D h).flatMap (alls D k)

/-- A node and all within it, in document order. -/
def allH (D : Dc) (h : Nat) : List Nat := alls D 64 h

theorem flatMap_congr' {α β : Type} {l : List α} {f g : α → List β} (h : ∀ x ∈ l, f x = g x) : l.flatMap f = l.flatMap g := by
  induction l with
  | nil => rfl
  | cons a r ih => rw [List.flatMap_cons, List.flatMap_cons, h a (by simp), ih (fun x hx => h x (by simp [hx]))]

theorem WF.kid {D : Dc} (hw : WF D) {lv : Nat → Nat} (hl : Lev D lv) {p : Nat} {q : Sl} (hp : sl D p = some q) {c : Nat} (hc : c ∈ lst D p) : ∃ s, sl D c = some s ∧ s.parent = p ∧ lv c = lv p + 1 := by
  obtain ⟨s, h1, h2⟩ := hw.down p (.inr ⟨q, hp⟩) c hc
  refine ⟨s, h1, h2, ?_⟩
  have h0 : p ≠ 0 := by rintro rfl; rw [sl_zero] at hp; cases hp
  rcases hl.par h1 with ⟨h3, _⟩ | ⟨_, _, h4⟩
  · rw [h2] at h3; exact absurd h3 h0
  · rw [h4, h2]
theorem WF.root {D : Dc} (hw : WF D) {lv : Nat → Nat} (hl : Lev D lv) {c : Nat} (hc : c ∈ D.roots) : ∃ s, sl D c = some s ∧ s.parent = 0 ∧ lv c = 0 := by
  obtain ⟨s, h1, h2⟩ := hw.down 0 (.inl rfl) c (by simpa [lst] using hc)
  refine ⟨s, h1, h2, ?_⟩
  rcases hl.par h1 with ⟨_, h4⟩ | ⟨q, h3, _⟩
  · exact h4
  · rw [h2, sl_zero] at h3; cases h3

theorem alls_eq {D : Dc} (hw : WF D) {lv : Nat → Nat} (hl : Lev D lv) : ∀ (k : Nat) (h : Nat) (s : Sl), sl D h = some s → 64 - lv h ≤ k → ∀ j, 64 - lv h ≤ j → alls D k h = alls D j h
  | 0, h, s, e, hk => by have := (hl h s e).1; omega
  | k + 1, h, s, e, hk => by
    intro j hj
    cases j with
    | zero => have := (hl h s e).1; omega
    | succ j =>
      rw [alls, alls]
      refine congrArg _ (flatMap_congr' fun c hc => ?_)
      obtain ⟨s', h1, _, h2⟩ := hw.kid hl e hc
      exact alls_eq hw hl k c s' h1 (by omega) j (by omega)

theorem allH_step {D : Dc} (hw : WF D) {h : Nat} {s : Sl} (e : sl D h = some s) : allH D h = h :: (lst D h).flatMap (allH D) := by
  obtain ⟨lv, hl⟩ := hw.lev
  unfold allH
  rw [alls]
  refine congrArg _ (flatMap_congr' fun c hc => ?_)
  obtain ⟨s', h1, _, h2⟩ := hw.kid hl e hc
  exact alls_eq hw hl 63 c s' h1 (by omega) 64 (by omega)

/-- Whatever lies within a node has it around. -/
theorem alls_ups {D : Dc} (hw : WF D) {lv : Nat → Nat} (hl : Lev D lv) : ∀ (k : Nat) (h : Nat) (s : Sl), sl D h = some s → ∀ x ∈ alls D k h, (∃ s', sl D x = some s') ∧ h ∈ ups D x
  | 0, h, s, e, x, hx => by simp [alls] at hx
  | k + 1, h, s, e, x, hx => by
    rw [alls, List.mem_cons, List.mem_flatMap] at hx
    rcases hx with rfl | ⟨c, hc, hx⟩
    · exact ⟨⟨s, e⟩, by rw [ups_step hl e]; simp⟩
    · obtain ⟨s', h1, hp, _⟩ := hw.kid hl e hc
      obtain ⟨h2, h3⟩ := alls_ups hw hl k c s' h1 x hx
      refine ⟨h2, ?_⟩
      clear hx
      obtain ⟨sx, hsx⟩ := h2
      have key : ∀ (m : Nat) (y : Nat) (sy : Sl), sl D y = some sy → lv y ≤ m → c ∈ ups D y → h ∈ ups D y := by
        intro m
        induction m with
        | zero =>
          intro y sy hy hm hcy
          rw [ups_step hl hy, List.mem_cons] at hcy
          rcases hcy with rfl | hcy
          · rw [hy] at h1
            cases h1
            rw [ups_step hl hy, hp, ups_step hl e]
            simp
          · rcases hl.par hy with ⟨h4, _⟩ | ⟨_, _, h5⟩
            · rw [h4, ups_zero] at hcy; simp at hcy
            · omega
        | succ m ih =>
          intro y sy hy hm hcy
          rw [ups_step hl hy, List.mem_cons] at hcy
          rcases hcy with rfl | hcy
          · rw [hy] at h1
            cases h1
            rw [ups_step hl hy, hp, ups_step hl e]
            simp
          · rw [ups_step hl hy]
            rcases hl.par hy with ⟨h4, _⟩ | ⟨q, h4, h5⟩
            · rw [h4, ups_zero] at hcy; simp at hcy
            · exact List.mem_cons_of_mem _ (ih _ q h4 (by omega) hcy)
      exact key (lv x) x sx hsx (Nat.le_refl _) h3

/-- On the way up there is one node of each level. -/
theorem ups_one {D : Dc} {lv : Nat → Nat} (hl : Lev D lv) : ∀ (m : Nat) (x : Nat) (s : Sl), sl D x = some s → lv x ≤ m → (∀ y ∈ ups D x, lv y ≤ lv x) ∧ ∀ y ∈ ups D x, ∀ z ∈ ups D x, lv y = lv z → y = z
  | m, x, s, e, hm => by
    rw [ups_step hl e]
    rcases hl.par e with ⟨h1, h2⟩ | ⟨q, h1, h2⟩
    · rw [h1, ups_zero]
      simp
    · cases m with
      | zero => omega
      | succ m =>
        obtain ⟨i1, i2⟩ := ups_one hl m s.parent q h1 (by omega)
        refine ⟨fun y hy => ?_, fun y hy z hz hyz => ?_⟩
        · rcases List.mem_cons.1 hy with rfl | hy
          · exact Nat.le_refl _
          · have := i1 y hy; omega
        · rcases List.mem_cons.1 hy with h3 | h3
          · rcases List.mem_cons.1 hz with h4 | h4
            · rw [h3, h4]
            · have := i1 z h4; rw [h3] at hyz; omega
          · rcases List.mem_cons.1 hz with h4 | h4
            · have := i1 y h3; rw [h4] at hyz; omega
            · exact i2 y h3 z h4 hyz

theorem sib_nodup {D : Dc} (hw : WF D) {lv : Nat → Nat} (hl : Lev D lv) {k : Nat} {l : List Nat} {m : Nat} (hn : l.Nodup) (hm : ∀ c ∈ l, ∃ s, sl D c = some s ∧ lv c = m) (ih : ∀ c ∈ l, (alls D k c).Nodup) : (l.flatMap (alls D k)).Nodup := by
  unfold List.Nodup at *
  rw [List.pairwise_flatMap]
  refine ⟨ih, ?_⟩
  refine List.Pairwise.imp_of_mem (fun {a b} ha hb hab => ?_) hn
  intro x hx y hy he
  subst he
  obtain ⟨sa, h1, h2⟩ := hm a ha
  obtain ⟨sb, h3, h4⟩ := hm b hb
  obtain ⟨⟨s', hs'⟩, u1⟩ := alls_ups hw hl k a sa h1 x hx
  obtain ⟨_, u2⟩ := alls_ups hw hl k b sb h3 x hy
  exact hab ((ups_one hl (lv x) x s' hs' (Nat.le_refl _)).2 a u1 b u2 (by omega))

theorem alls_nodup {D : Dc} (hw : WF D) {lv : Nat → Nat} (hl : Lev D lv) : ∀ (k : Nat) (h : Nat) (s : Sl), sl D h = some s → (alls D k h).Nodup
  | 0, h, s, e => by simp [alls]
  | k + 1, h, s, e => by
    rw [alls, List.nodup_cons]
    refine ⟨fun hx => ?_, sib_nodup hw hl (m := lv h + 1) (hw.nodup h) (fun c hc => ?_) (fun c hc => ?_)⟩
    · obtain ⟨c, hc, hx⟩ := List.mem_flatMap.1 hx
      obtain ⟨s', h1, _, h2⟩ := hw.kid hl e hc
      obtain ⟨_, u⟩ := alls_ups hw hl k c s' h1 h hx
      have := (ups_one hl (lv h) h s e (Nat.le_refl _)).1 c u
      omega
    · obtain ⟨s', h1, _, h2⟩ := hw.kid hl e hc
      exact ⟨s', h1, h2⟩
    · obtain ⟨s', h1, _, _⟩ := hw.kid hl e hc
      exact alls_nodup hw hl k c s' h1

/-- All nodes. -/
def allR (D : Dc) : List Nat := D.roots.flatMap (allH D)

theorem allR_nodup {D : Dc} (hw : WF D) : (allR D).Nodup := by
  obtain ⟨lv, hl⟩ := hw.lev
  have hn := hw.nodup 0
  have e : lst D 0 = D.roots := by simp [lst]
  rw [e] at hn
  exact sib_nodup hw hl (m := 0) hn (fun c hc => by obtain ⟨s, h1, _, h2⟩ := hw.root hl hc; exact ⟨s, h1, h2⟩) (fun c hc => by obtain ⟨s, h1, _, _⟩ := hw.root hl hc; exact alls_nodup hw hl _ c s h1)
theorem allH_nodup {D : Dc} (hw : WF D) {h : Nat} {s : Sl} (e : sl D h = some s) : (allH D h).Nodup := by
  obtain ⟨lv, hl⟩ := hw.lev
  exact alls_nodup hw hl _ h s e
theorem allH_live {D : Dc} (hw : WF D) {h : Nat} {s : Sl} (e : sl D h = some s) : ∀ x ∈ allH D h, ∃ s', sl D x = some s' := by
  obtain ⟨lv, hl⟩ := hw.lev
  exact fun x hx => (alls_ups hw hl _ h s e x hx).1
theorem allR_live {D : Dc} (hw : WF D) : ∀ x ∈ allR D, ∃ s', sl D x = some s' := by
  obtain ⟨lv, hl⟩ := hw.lev
  intro x hx
  obtain ⟨c, hc, hx⟩ := List.mem_flatMap.1 hx
  obtain ⟨s, h1, _⟩ := hw.root hl hc
  exact allH_live hw h1 x hx

theorem nodup_len : ∀ (N : Nat) (L : List Nat), L.Nodup → (∀ x ∈ L, x < N) → L.length ≤ N
  | 0, L, _, h => by
    cases L with
    | nil => simp
    | cons a r => have := h a (by simp); omega
  | N + 1, L, hn, h => by
    have h1 := nodup_len N (L.erase N) (hn.erase N) (fun x hx => by
      have h2 := h x (List.mem_of_mem_erase hx)
      have h3 : x ≠ N := by rintro rfl; exact hn.not_mem_erase hx
      omega)
    by_cases hm : N ∈ L
    · rw [List.length_erase_of_mem hm] at h1; omega
    · rw [List.erase_of_not_mem hm] at h1; omega

/-- Different live nodes have different indexes: there are no more of them than slots. -/
theorem live_len {D : Dc} (hw : WF D) {L : List Nat} (hn : L.Nodup) (hl : ∀ x ∈ L, ∃ s, sl D x = some s) : L.length ≤ D.S.length := by
  have h1 : (L.map fun h => h % 4294967296 - 1).Nodup := by
    unfold List.Nodup
    rw [List.pairwise_map]
    refine List.Pairwise.imp_of_mem (fun {a b} ha hb hab => ?_) hn
    intro he
    obtain ⟨sa, h1⟩ := hl a ha
    obtain ⟨sb, h2⟩ := hl b hb
    obtain ⟨i, a1, a2, a3, a4⟩ := sl_live h1
    obtain ⟨j, b1, b2, b3, b4⟩ := sl_live h2
    obtain ⟨_, _, _, _, a5, _⟩ := atI_some a1
    obtain ⟨_, _, _, _, b5, _⟩ := atI_some b1
    rw [← a5, ← b5] at he
    subst he
    rw [a2] at b2
    cases b2
    exact hab (a4.trans b4.symm)
  have h2 := nodup_len D.S.length _ h1 (fun x hx => by
    obtain ⟨h, hh, rfl⟩ := List.mem_map.1 hx
    obtain ⟨s, hs⟩ := hl h hh
    obtain ⟨i, a1, a2, _⟩ := sl_live hs
    obtain ⟨_, _, _, _, a5, _⟩ := atI_some a1
    have := (List.getElem?_eq_some_iff.1 a2).1
    omega)
  simpa using h2

end Go.Proofs.Ytjkgjckkglfokab.Gr

/- A node and all within it: the program's gather and All. -/
namespace Go.Proofs.Ytjkgjckkglfokab.Gr
open Go.RowKit
set_option linter.unusedVariables false
set_option linter.unusedSimpArgs false

def hvals (l : List Nat) : List Value := l.map fun h : Nat => .int .u64 (h : Int)
theorem hvals_length (l : List Nat) : (hvals l).length = l.length := by simp [hvals]
theorem hvals_append (l m : List Nat) : hvals (l ++ m) = hvals l ++ hvals m := by simp [hvals]
theorem hvals_one (l : List Nat) : ∀ u ∈ hvals l, u.oneCell' = true := by
  intro u hu
  obtain ⟨t, _, rfl⟩ := List.mem_map.1 hu
  rfl
theorem info42 : InfoOf Try.prog 51 (.int .u64 0) 1 8 := by unfold InfoOf; kernel_rfl

theorem own_len {w : World} {base : Nat} {e : TypeId} {v : Value} {n : Nat} {xs : List Nat} (h : w.ownsRow base e 1 v n (hvals xs)) : n = xs.length := by
  have := h.1
  rw [hvals_length] at this
  omega

theorem own_after {w w' : World} {base : Nat} {e : TypeId} {size : Nat} {v : Value} {n : Nat} {xs : List Value} (h : w.ownsRow base e size v n xs) (hb : Below w.heap.size w w') : w'.ownsRow base e size v n xs :=
  own_of_block h (fun k hk => hb.block k (own_block_lt h k hk).2)

def GathP (w : World) (base : Nat) (xs ys : List Nat) (e : Ending) (w' : World) : Prop :=
  ∃ v', e = .returned v' ∧ w'.ownsRow base 51 1 v' (xs.length + ys.length) (hvals (xs ++ ys)) ∧ Below base w w'
def GathAll (D : Dc) (R : Nat → Prop) (db : Nat) (lv : Nat → Nat) (k : Nat) : Prop := ∀ (w : World) (v : Value) (n : Nat) (xs : List Nat) (a : Option Addr) (l : List Nat) (cap base : Nat), View w R db D → (∀ b, R b → b < base) → base ≤ w.heap.size → w.ownsRow base 51 1 v n (hvals xs) → HandsAt w R a l →
    (∀ h ∈ l, ∃ s, sl D h = some s ∧ 64 - lv h ≤ k) → xs.length + (l.flatMap (allH D)).length ≤ 1000000 → l.length ≤ 1000000 → Calls Try.prog 43 #[.pointer (some ⟨db, 0, none⟩), v, .slice a l.length cap] w (GathP w base xs (l.flatMap (allH D)))

theorem flatMap_snoc {α β : Type} {l : List α} {f : α → List β} {i : Nat} {x : α} (h : l[i]? = some x) : (l.take (i + 1)).flatMap f = (l.take i).flatMap f ++ f x := by
  rw [take_more h, List.flatMap_append]
  simp
theorem flatMap_part {α β : Type} (l : List α) (f : α → List β) (i : Nat) : ((l.take i).flatMap f).length ≤ (l.flatMap f).length := by
  have : l.flatMap f = (l.take i).flatMap f ++ (l.drop i).flatMap f := by rw [← List.flatMap_append, List.take_append_drop]
  rw [this]
  simp

set_option maxRecDepth 100000 in
set_option maxHeartbeats 1000000 in
theorem gather_step (D : Dc) (R : Nat → Prop) (db : Nat) (lv : Nat → Nat) (hw : WF D) (hl : Lev D lv) (k : Nat) (ih : ∀ j, j + 1 = k → GathAll D R db lv j) : GathAll D R db lv k := by
  intro w v n xs a l cap base hv hR hbase hown hat hlive htot hll
  have hn := own_len hown
  subst hn
  obtain ⟨va, vc, rfl⟩ := own_slice hown
  have HV : Hid (View w R db D) := hv
  have HW : Hid (WF D) := hw
  have HL : Hid (Lev D lv) := hl
  have HR : Hid (∀ b, R b → b < base) := hR
  have HAT : Hid (HandsAt w R a l) := hat
  have HLV : Hid (∀ h ∈ l, ∃ s, sl D h = some s ∧ 64 - lv h ≤ k) := hlive
  have HIH : Hid (∀ j, j + 1 = k → GathAll D R db lv j) := ih
  have HOW : Hid (w.ownsRow base 51 1 (.slice va xs.length vc) xs.length (hvals xs)) := hown
  clear hv hw hl hR hat hlive ih hown
  go_enter Try.func43, Try.ntmps43
  go_wp2
  go_loopw [1, 8, 11] (fun q _ iv wr => ∃ (i : Nat) (qa : Option Addr) (qc : Nat), i ≤ l.length ∧ iv = .int .i64 (i : Int) ∧ q = .slice qa (xs ++ (l.take i).flatMap (allH D)).length qc ∧ Hid (wr.ownsRow base 51 1 (.slice qa (xs ++ (l.take i).flatMap (allH D)).length qc) (xs ++ (l.take i).flatMap (allH D)).length (hvals (xs ++ (l.take i).flatMap (allH D)))) ∧ Hid (Below base w wr)) (fun _ _ iv _ => l.length - (intOf iv).toNat)
  case atStart => exact ⟨0, va, vc, by omega, rfl, by simp, (by rw [List.take_zero, List.flatMap_nil, List.append_nil]; exact HOW), Below.refl _ _⟩
  case round =>
    obtain ⟨i, qa, qc, hi, rfl, rfl, hrow, hbw⟩ := hrel
    have hbs := hbw.out.size
    by_cases hlt : i < l.length
    · obtain ⟨x, hx⟩ : ∃ x, l[i]? = some x := ⟨_, List.getElem?_eq_getElem hlt⟩
      obtain ⟨s, hs, hk⟩ := HLV.out x (List.mem_of_getElem? hx)
      obtain ⟨b, o, ha, hbR, hc⟩ := HAT.out i x hx
      subst ha
      have hbb := HR.out b hbR
      have hc' : wr.cell? ⟨b, o + i, none⟩ = some (.int .u64 (x : Int)) := (hbw.out.cell (p := ⟨b, _, none⟩) hbb).trans hc
      have hbl : b < wr.heap.size := by omega
      have hvr : View wr R db D := HV.out.to (fun _ h => h) (fun b hb => by have := HR.out b hb; omega) (fun b o hb => hbw.out.cell (p := ⟨b, o, none⟩) (HR.out b hb))
      obtain ⟨hxl, -, j, haj, hsj, -⟩ := HW.out.lt hs
      have hst := allH_step HW.out hs
      have hsn := flatMap_snoc (f := allH D) hx
      have hpt := flatMap_part l (allH D) (i + 1)
      have hkd : ∀ c ∈ lst D x, ∃ s, sl D c = some s ∧ 64 - lv c ≤ k - 1 := fun c hc => by
        obtain ⟨s', h1, _, h2⟩ := HW.out.kid HL.out hs hc
        exact ⟨s', h1, by omega⟩
      have hlv63 := (HL.out x s hs).1
      have hih := HIH.out (k - 1) (by omega)
      rw [hst] at hsn
      have hszA : (xs ++ (l.take i).flatMap (allH D)).length + 1 + ((lst D x).flatMap (allH D)).length ≤ 1000000 := by
        rw [hsn] at hpt
        simp only [List.length_append, List.length_cons] at hpt ⊢
        omega
      have hkl : (lst D x).length ≤ 1000000 := by
        have hks : ((lst D x).length ≤ ((lst D x).flatMap (allH D)).length) := by
          clear hszA hpt hsn hst hih
          have : ∀ (m : List Nat), (∀ c ∈ m, ∃ s, sl D c = some s) → m.length ≤ (m.flatMap (allH D)).length := by
            intro m
            induction m with
            | nil => simp
            | cons c r ihm =>
              intro hm
              obtain ⟨sc, hsc⟩ := hm c (by simp)
              have := ihm (fun c hc => hm c (by simp [hc]))
              rw [List.flatMap_cons, allH_step HW.out hsc]
              simp only [List.length_cons, List.length_append]
              omega
          exact this _ (fun c hc => by obtain ⟨s', h1, _⟩ := hkd c hc; exact ⟨s', h1⟩)
        omega
      generalize hXS : xs ++ (l.take i).flatMap (allH D) = XS at *
      have HSN : Hid (xs ++ (l.take (i + 1)).flatMap (allH D) = XS ++ [x] ++ (lst D x).flatMap (allH D)) := by
        show _ = _
        rw [hsn, ← hXS]
        simp
      have HVR : Hid (View wr R db D) := hvr
      have HKD : Hid (∀ c ∈ lst D x, ∃ s, sl D c = some s ∧ 64 - lv c ≤ k - 1) := hkd
      have HS : Hid (sl D x = some s) := hs
      have HAJ : Hid (atI D.S x = some j) := haj
      have HSJ : Hid (D.S[j]? = some s) := hsj
      clear hsn hst hpt hXS hvr hkd hs haj hsj hx hk HLV HIH HOW hc
      have tok : True := trivial
      go_wp2_with (at_builtin; have _t := tok; refine wpList_app rfl _ _ rfl Try.underlying42 info42 rfl (by decide) base (.slice qa XS.length qc) XS.length (hvals XS) rfl (own_of_block hrow.out (fun k hk => Below.heap_alloc _ _ _ (own_block_lt hrow.out k hk).2)) (some ⟨wr.heap.size, 0, none⟩) 1 1 [.int .u64 (x : Int)] rfl rfl (news_new wr #[.int .u64 (x : Int)] 51) (by simp [Value.oneCell']) (by unfold maxLen; omega) (by omega) (by simp; omega) ?_; intro v1 w1 hown1 hg1 _ hat1; clear tok _t; obtain ⟨va1, vc1, hv1⟩ := own_slice hown1; subst hv1; have HO1 : Hid (w1.ownsRow base 51 1 (.slice va1 (XS.length + 1) vc1) (XS.length + 1) (hvals (XS ++ [x]))) := (by rw [hvals_append]; exact hown1); have HB1 : Hid (Below base w w1) := (hbw.out.alloc (by omega) _).grown hg1 (by simp; omega) (fun k hk => (own_block_lt hrow.out k hk).1); clear hown1 hg1 hat1)
      have hv1 : View w1 R db D := HV.out.to (fun _ h => h) (fun b hb => by have := HR.out b hb; have := HB1.out.size; omega) (fun b o hb => HB1.out.cell (p := ⟨b, o, none⟩) (HR.out b hb))
      have hs1 := HB1.out.size
      obtain ⟨b2, o2, cap2, aa, ac, ka, kc, g1, gcl, gbR, c0, c1, c2, c3, c4, c5, c6, c7, l1, l2, -, hkat⟩ := hv1.slot HSJ.out
      have hfi := find_some w1 R db D x j hv1 HW.out.fits hxl HAJ.out b2 o2 cap2 g1
      have hb2l := HR.out b2 gbR
      have hek : lst D x = s.kids := by
        have h0 : x ≠ 0 := by rintro rfl; have := HS.out; rw [sl_zero] at this; cases this
        have := HS.out
        simp [lst, h0, this]
      rw [hek] at hszA hkl
      have HKD2 : Hid (∀ c ∈ s.kids, ∃ s, sl D c = some s ∧ 64 - lv c ≤ k - 1) := by rw [← hek]; exact HKD
      have HSN2 : Hid (xs ++ (l.take (i + 1)).flatMap (allH D) = XS ++ [x] ++ s.kids.flatMap (allH D)) := by rw [← hek]; exact HSN
      have HKA : Hid (HandsAt w1 R ka s.kids) := hkat
      have HV1 : Hid (View w1 R db D) := hv1
      have hb2s : b2 < w1.heap.size := by omega
      clear c0 c1 c2 c3 c4 c5 c6 hkat hv1 g1 gcl HKD HSN hek HAJ HSJ HS hc' hrow
      refine hfi.mono ?_
      rintro e w2 ⟨rfl, hb2⟩
      obtain ⟨hcc, -⟩ := bcell hb2
      have HB2 : Hid (Below w1.heap.size w1 w2) := hb2
      have hs2 := hb2.size
      clear hb2 hfi
      go_wp2_with fail
      refine (hih w2 _ (XS.length + 1) (XS ++ [x]) ka s.kids kc base (HV1.out.below HB2.out) HR.out (by omega) (own_after HO1.out HB2.out) (HKA.out.to (fun _ h => h) (fun b o hb => HB2.out.cell (p := ⟨b, o, none⟩) (by have := HR.out b hb; show b < w1.heap.size; omega))) HKD2.out (by rw [List.length_append]; simpa using hszA) hkl).mono ?_
      rintro e w3 ⟨v3, rfl, hown3, hb3⟩
      obtain ⟨va3, vc3, hv3⟩ := own_slice hown3
      subst hv3
      have hln : (XS ++ [x]).length + (s.kids.flatMap (allH D)).length = (xs ++ (l.take (i + 1)).flatMap (allH D)).length := by rw [HSN2.out]; simp; omega
      rw [hln, ← HSN2.out] at hown3
      rw [hln]
      clear hln
      generalize hN : (xs ++ (l.take (i + 1)).flatMap (allH D)).length = N at hown3 ⊢
      have HN : Hid ((xs ++ (l.take (i + 1)).flatMap (allH D)).length = N) := hN
      have HO3 : Hid (w3.ownsRow base 51 1 (.slice va3 N vc3) N (hvals (xs ++ (l.take (i + 1)).flatMap (allH D)))) := hown3
      have HB3 : Hid (Below base w w3) := (HB1.out.trans (HB2.out.mono (by omega))).trans hb3
      clear hown3 hb3 hN HB2 HB1 HO1 HKA HV1 HKD2 HSN2 hcc hszA hkl hih
      go_wp2
      go_roundw
      case rel => exact ⟨i + 1, va3, vc3, by omega, by go_num, by rw [HN.out], by rw [HN.out]; exact HO3, HB3⟩
      case measure => simp [intOf]; omega
    · have hie : i = l.length := by omega
      subst hie
      have hr := hrow.out
      rw [List.take_length] at hr
      have HR2 : Hid (wr.ownsRow base 51 1 (.slice qa (xs ++ l.flatMap (allH D)).length qc) (xs ++ l.flatMap (allH D)).length (hvals (xs ++ l.flatMap (allH D)))) := hr
      rw [List.take_length]
      clear hr hrow HIH
      go_wp2
      go_ret
      exact ⟨_, rfl, by rw [← List.length_append]; exact HR2.out, hbw.out⟩

theorem gather_any (D : Dc) (R : Nat → Prop) (db : Nat) (lv : Nat → Nat) (hw : WF D) (hl : Lev D lv) : ∀ k, GathAll D R db lv k
  | 0 => gather_step D R db lv hw hl 0 (fun j hj => by omega)
  | k + 1 => gather_step D R db lv hw hl (k + 1) (fun j hj => by
    have : j = k := by omega
    subst this
    exact gather_any D R db lv hw hl j)

end Go.Proofs.Ytjkgjckkglfokab.Gr

/- All: the program's and the document's. -/
namespace Go.Proofs.Ytjkgjckkglfokab.Gr
open Go.RowKit
set_option linter.unusedVariables false
set_option linter.unusedSimpArgs false

def AllP (w : World) (ys : List Nat) (e : Ending) (w' : World) : Prop :=
  ∃ a cap, e = .returned (.tuple #[.slice a ys.length cap, .int .i64 0]) ∧ w'.ownsRow w.heap.size 51 1 (.slice a ys.length cap) ys.length (hvals ys) ∧ Below w.heap.size w w'

theorem own_nil (w : World) (base : Nat) (e : TypeId) (size : Nat) : w.ownsRow base e size (.slice none 0 0) 0 [] := ⟨by simp, .inl ⟨rfl, rfl⟩⟩

theorem roots_len {D : Dc} (hw : WF D) : D.roots.length ≤ 4096 ∧ (allR D).length ≤ 4096 := by
  have h1 := live_len hw (allR_nodup hw) (allR_live hw)
  have hl := hw.fits.len
  have hn := hw.nodup 0
  have e : lst D 0 = D.roots := by simp [lst]
  rw [e] at hn
  obtain ⟨lv, hlv⟩ := hw.lev
  have h2 := live_len hw hn (fun x hx => by obtain ⟨s, h, _⟩ := hw.root hlv hx; exact ⟨s, h⟩)
  omega
theorem kids_len {D : Dc} (hw : WF D) {h : Nat} {s : Sl} (e : sl D h = some s) : s.kids.length ≤ 4096 ∧ (allH D h).length ≤ 4096 := by
  have h1 := live_len hw (allH_nodup hw e) (allH_live hw e)
  have hl := hw.fits.len
  have hn := hw.nodup h
  have h0 : h ≠ 0 := by rintro rfl; rw [sl_zero] at e; cases e
  have ek : lst D h = s.kids := by simp [lst, h0, e]
  obtain ⟨lv, hlv⟩ := hw.lev
  have h2 := live_len hw hn (fun x hx => by obtain ⟨s, h, _⟩ := hw.kid hlv e hx; exact ⟨s, h⟩)
  rw [ek] at h2
  omega
theorem lst_len {D : Dc} (hw : WF D) {p : Nat} (hp : p = 0 ∨ ∃ s, sl D p = some s) : (lst D p).length ≤ 4096 := by
  rcases hp with rfl | ⟨s, hs⟩
  · have := (roots_len hw).1
    simpa [lst] using this
  · have h0 : p ≠ 0 := by rintro rfl; rw [sl_zero] at hs; cases hs
    have := (kids_len hw hs).1
    simpa [lst, h0, hs] using this

set_option maxRecDepth 100000 in
set_option maxHeartbeats 1000000 in
theorem pall_zero (w : World) (R : Nat → Prop) (db : Nat) (D : Dc) (hv : View w R db D) (hw : WF D) :
    Calls Try.prog 22 #[.pointer (some ⟨db, 0, none⟩), .int .u64 0] w (AllP w (allR D)) := by
  obtain ⟨lv, hl⟩ := hw.lev
  obtain ⟨a, cap, h1, h2, h3⟩ := hv.roots
  have hrl := roots_len hw
  have hg := gather_any D R db lv hw hl 64 w (.slice none 0 0) 0 [] a D.roots cap w.heap.size hv hv.lt (Nat.le_refl _) (own_nil _ _ _ _) h3 (fun h hh => by
    obtain ⟨s, h1, _, h2⟩ := hw.root hl hh
    exact ⟨s, h1, by omega⟩) (by show 0 + (allR D).length ≤ _; omega) (by omega)
  clear h3 hv hw hl
  go_enter Try.func22, Try.ntmps22
  go_wp2_with fail
  refine hg.mono ?_
  rintro e w' ⟨v', rfl, hown, hb⟩
  have e1 : D.roots.flatMap (allH D) = allR D := rfl
  rw [e1, List.length_nil, Nat.zero_add, List.nil_append] at hown
  obtain ⟨va, vc, hv⟩ := own_slice hown
  subst hv
  generalize hN : (allR D).length = N at *
  have HN : Hid ((allR D).length = N) := hN
  have HO : Hid (w'.ownsRow w.heap.size 51 1 (.slice va N vc) N (hvals (allR D))) := hown
  have HB : Hid (Below w.heap.size w w') := hb
  clear hown hb hg hN e1
  go_wp2
  go_ret2
  exact ⟨va, vc, by rw [HN.out]; rfl, by rw [HN.out]; exact HO.out, HB.out⟩

end Go.Proofs.Ytjkgjckkglfokab.Gr

/- All, by the document. -/
namespace Go.Proofs.Ytjkgjckkglfokab.Gr
open Go.RowKit
set_option linter.unusedVariables false
set_option linter.unusedSimpArgs false

theorem WF.ltz {D : Dc} (hw : WF D) {h : Nat} (hh : h = 0 ∨ ∃ s, sl D h = some s) : h < 18446744073709551616 := by
  rcases hh with rfl | ⟨s, hs⟩
  · omega
  · exact (hw.lt hs).1

end Go.Proofs.Ytjkgjckkglfokab.Gr

/- All of the document at its face; heights. -/
namespace Go.Proofs.Ytjkgjckkglfokab.Gr
open Go.RowKit
set_option linter.unusedVariables false
set_option linter.unusedSimpArgs false

/-- How many nodes lie from a node down to the deepest one within it. -/
def hgts (D : Dc) : Nat → Nat → Nat
  | 0, _ => 0
  | k + 1, h => ((lst D h).map (hgts D k)).foldl max 0 + 1
def hgt (D : Dc) (h : Nat) : Nat := hgts D 64 h

theorem foldl_max_le (l : List Nat) (N a : Nat) (ha : a ≤ N) (h : ∀ x ∈ l, x ≤ N) : l.foldl max a ≤ N := by
  induction l generalizing a with
  | nil => exact ha
  | cons x r ih => exact ih (max a x) (by have := h x (by simp); omega) (fun y hy => h y (by simp [hy]))

theorem hgts_eq {D : Dc} (hw : WF D) {lv : Nat → Nat} (hl : Lev D lv) : ∀ (k : Nat) (h : Nat) (s : Sl), sl D h = some s → 64 - lv h ≤ k → ∀ j, 64 - lv h ≤ j → hgts D k h = hgts D j h
  | 0, h, s, e, hk => by have := (hl h s e).1; omega
  | k + 1, h, s, e, hk => by
    intro j hj
    cases j with
    | zero => have := (hl h s e).1; omega
    | succ j =>
      rw [hgts, hgts]
      have : (lst D h).map (hgts D k) = (lst D h).map (hgts D j) := List.map_congr_left fun c hc => by
        obtain ⟨s', h1, _, h2⟩ := hw.kid hl e hc
        exact hgts_eq hw hl k c s' h1 (by omega) j (by omega)
      rw [this]

theorem hgt_step {D : Dc} (hw : WF D) {h : Nat} {s : Sl} (e : sl D h = some s) : hgt D h = ((lst D h).map (hgt D)).foldl max 0 + 1 := by
  obtain ⟨lv, hl⟩ := hw.lev
  unfold hgt
  rw [hgts]
  have : (lst D h).map (hgts D 63) = (lst D h).map (hgts D 64) := List.map_congr_left fun c hc => by
    obtain ⟨s', h1, _, h2⟩ := hw.kid hl e hc
    exact hgts_eq hw hl 63 c s' h1 (by omega) 64 (by omega)
  rw [this]
end Go.Proofs.Ytjkgjckkglfokab.Gr

/- How many nodes a tree has, and how deep it is: the program's answer and the document's. -/
namespace Go.Proofs.Ytjkgjckkglfokab.Gr
open Go.RowKit
set_option linter.unusedVariables false
set_option linter.unusedSimpArgs false

/-- Every node of the tree can be by itself. -/
def okT : (n : Nat) → T n → Prop
  | 0, _ => True
  | n + 1, t => ownE t = 0 ∧ ∀ k ∈ kidsT t, okT n k
def ndT : (n : Nat) → T n → Nat
  | 0, _ => 0
  | n + 1, t => ((kidsT t).map (ndT n)).sum + 1
def htT : (n : Nat) → T n → Nat
  | 0, _ => 0
  | n + 1, t => ((kidsT t).map (htT n)).foldl max 0 + 1

theorem foldl_max_ge (l : List Nat) : ∀ a, a ≤ l.foldl max a ∧ ∀ x ∈ l, x ≤ l.foldl max a := by
  induction l with
  | nil => intro a; simp
  | cons y r ih =>
    intro a
    obtain ⟨h1, h2⟩ := ih (max a y)
    refine ⟨by simp only [List.foldl_cons]; omega, fun x hx => ?_⟩
    rcases List.mem_cons.1 hx with rfl | hx
    · simp only [List.foldl_cons]; omega
    · exact h2 x hx

/-- A tree that can be: what Check counts. -/
theorem chk_ok : ∀ (n : Nat) (t : T n) (d a : Int), 0 ≤ a → a ≤ 4096 → d ≤ 65 → (chk n t d a).2 = 0 → okT n t ∧ (chk n t d a).1 = a + ndT n t ∧ d + htT n t ≤ 65
  | 0, t, d, a, _, _, hd, h => by simp [okT, chk, ndT, htT]; exact hd
  | n + 1, t, d, a, h0, h1, hd, h => by
    rw [chk] at h ⊢
    by_cases hx : 64 < d ∨ 4096 ≤ a
    · rw [if_pos hx] at h; simp at h
    · rw [if_neg hx] at h ⊢
      by_cases ho : ownE t = 0
      · rw [if_pos ho] at h ⊢
        have key : ∀ (L : List (T n)) (a : Int), 0 ≤ a → a ≤ 4096 → (chkL (fun k x => chk n k (d + 1) x) L a).2 = 0 → (∀ k ∈ L, okT n k) ∧ (chkL (fun k x => chk n k (d + 1) x) L a).1 = a + ((L.map (ndT n)).sum : Nat) ∧ (∀ k ∈ L, d + 1 + htT n k ≤ 65) := by
          intro L
          induction L with
          | nil => intro a _ _ _; simp [chkL]
          | cons k r ih =>
            intro a ha0 ha1 hc
            rw [chkL] at hc ⊢
            by_cases he : (chk n k (d + 1) a).2 = 0
            · rw [if_pos he] at hc ⊢
              obtain ⟨g1, g2, g3⟩ := chk_ok n k (d + 1) a ha0 ha1 (by omega) he
              have hle := chk_le n k (d + 1) a ha1
              have hge := chk_ge n k (d + 1) a
              obtain ⟨i1, i2, i3⟩ := ih _ (by omega) hle hc
              refine ⟨fun x hx => ?_, ?_, fun x hx => ?_⟩
              · rcases List.mem_cons.1 hx with rfl | hx
                · exact g1
                · exact i1 x hx
              · rw [i2, g2]
                simp only [List.map_cons, List.sum_cons]
                omega
              · rcases List.mem_cons.1 hx with rfl | hx
                · exact g3
                · exact i3 x hx
            · rw [if_neg he] at hc
              exact absurd hc he
        obtain ⟨k1, k2, k3⟩ := key (kidsT t) (a + 1) (by omega) (by omega) h
        refine ⟨⟨ho, k1⟩, ?_, ?_⟩
        · rw [k2, ndT]; omega
        · rw [htT]
          have := foldl_max_le ((kidsT t).map (htT n)) (64 - d).toNat 0 (by omega) (fun x hx => by
            obtain ⟨c, hc, rfl⟩ := List.mem_map.1 hx
            have := k3 c hc
            omega)
          omega
      · rw [if_neg ho] at h
        exact absurd h ho

theorem sum_part (l : List Nat) (i : Nat) : (l.take i).sum ≤ l.sum := by
  have h := congrArg List.sum (List.take_append_drop i l)
  rw [List.sum_append] at h
  omega
theorem ndT_pos : ∀ (n : Nat) (t : T (n + 1)), 1 ≤ ndT (n + 1) t := fun n t => by rw [ndT]; omega

def MeaP (w : World) (x y : Nat) (e : Ending) (w' : World) : Prop := e = .returned (.tuple #[.int .i64 (x : Int), .int .i64 (y : Int)]) ∧ Below w.heap.size w w'
def MeaAll (n : Nat) : Prop := ∀ (w : World) (v : Array Value) (t : T n) (lo hi : Nat), TreeAt w lo hi n v t → hi ≤ w.heap.size → okT n t → ndT n t ≤ 4096 → htT n t ≤ 4096 → Calls Try.prog 37 #[.agg v] w (MeaP w (ndT n t) (htT n t))

set_option maxRecDepth 100000 in
set_option maxHeartbeats 1000000 in
theorem measure_any : ∀ (n : Nat), MeaAll n
  | 0 => fun _ _ _ _ _ h => h.elim
  | n + 1 => by
    intro w v t lo hi h hsz hok hnd hht
    have ih := measure_any n
    obtain ⟨a, ac, ka, kc, rfl, hal, hkl, hac, hkc, hat, hkt⟩ := id h
    unfold tv at h ⊢
    obtain ⟨ho, hkk⟩ := hok
    obtain ⟨ka', kc', hk1, -, hkat, hkm⟩ := h.kids ho
    have hko := fun W => kidsOf_any W t.kind t.name a t.attrs.length ac t.text ka t.kids.length kc
    rw [hk1] at hko
    unfold maxK at hkm
    have HKT : Hid (KidsAt w lo hi n ka' (kidsT t)) := hkat
    have HOK : Hid (∀ k ∈ kidsT t, okT n k) := hkk
    have HND : Hid (ndT (n + 1) t = ((kidsT t).map (ndT n)).sum + 1) := rfl
    have HHT : Hid (htT (n + 1) t = ((kidsT t).map (htT n)).foldl max 0 + 1) := rfl
    have HBN : Hid (Below w.heap.size w (w.alloc (.cells #[.int .i64 t.kind, .string t.name, .slice a t.attrs.length ac, .string t.text, .slice ka t.kids.length kc] 48))) := below_new' w _
    clear hal hkl hac hkc hat hkt h ho hkk hkat hk1
    generalize kidsT t = L at *
    go_enter Try.func37, Try.ntmps37
    go_wp2_with fail
    refine (hko _).mono ?_
    rintro e w1 ⟨rfl, hb1⟩
    have HB1 : Hid (Below w.heap.size w w1) := HBN.out.trans (hb1.mono (by simp))
    clear hb1 hko
    go_wp2
    go_loopw [2, 3, 11] (fun q r iv wr => ∃ (j x y : Nat), j ≤ L.length ∧ iv = .int .i64 (j : Int) ∧ q = .int .i64 (x : Int) ∧ r = .int .i64 (y : Int) ∧ x ≤ 4096 ∧ y ≤ 4096 ∧ Hid (((L.take j).map (ndT n)).sum = x) ∧ Hid (((L.take j).map (htT n)).foldl max 0 = y) ∧ Hid (Below w.heap.size w wr)) (fun _ _ iv _ => L.length - (intOf iv).toNat)
    case atStart => exact ⟨0, 0, 0, by omega, rfl, rfl, rfl, by omega, by omega, rfl, rfl, HB1⟩
    case round =>
      obtain ⟨j, x, y, hj, rfl, rfl, rfl, hx, hy, hsx, hsy, hbw⟩ := hrel
      have hbs := hbw.out.size
      clear HB1
      by_cases hlt : j < L.length
      · obtain ⟨k, hk⟩ : ∃ k, L[j]? = some k := ⟨_, List.getElem?_eq_getElem hlt⟩
        have hkt' := HKT.out.below hbw.out hsz
        obtain ⟨b, o, kk, nm, a', al', ac', tx, ka2, kl2, kc2, rfl, hb1, hb2, c0, c1, c2, c3, c4, htr⟩ := hkt'.get hk
        have hbr : b < wr.heap.size := by omega
        have hmk : k ∈ L := List.mem_of_getElem? hk
        have hnk : x + ndT n k ≤ 4096 := by
          have h1 := sum_part (L.map (ndT n)) (j + 1)
          have h2 := HND.out
          rw [← List.map_take, take_more hk, List.map_append, List.sum_append, hsx.out] at h1
          simp at h1
          omega
        have hhk : htT n k ≤ 4096 := by
          have h1 := (foldl_max_ge (L.map (htT n)) 0).2 (htT n k) (List.mem_map_of_mem hmk)
          have h2 := HHT.out
          omega
        have hih := ih (wr.alloc (.cells #[.int .i64 kk, .string nm, .slice a' al' ac', .string tx, .slice ka2 kl2 kc2] 48)) _ k lo hi (htr.below (below_new' wr _) (by omega)) (by simp; omega) (HOK.out k hmk) (by omega) hhk
        have HSX : Hid (((L.take (j + 1)).map (ndT n)).sum = x + ndT n k) := by
          show _ = _
          rw [take_more hk, List.map_append, List.sum_append, hsx.out]
          simp
        have HSY : Hid (((L.take (j + 1)).map (htT n)).foldl max 0 = max y (htT n k)) := by
          show _ = _
          rw [take_more hk, List.map_append, List.foldl_append, hsy.out]
          rfl
        generalize ndT n k = p at *
        generalize htT n k = q at *
        clear hkt' hk htr hsx hsy hmk
        go_wp2_with fail
        refine hih.mono ?_
        rintro e w2 ⟨rfl, hb2⟩
        have HB2 : Hid (Below w.heap.size w w2) := (hbw.out.alloc hbs _).trans (hb2.mono (by simp; omega))
        clear hb2 hih c0 c1 c2 c3 c4
        go_wp2
        refine ⟨⟨j + 1, x + p, max y q, by omega, by go_num, by go_num, congrArg _ (by split <;> omega), by omega, by omega, HSX, HSY, HB2⟩, ?_⟩
        simp [intOf]
        omega
      · have hje : j = L.length := by omega
        subst hje
        have e1 : ndT (n + 1) t = x + 1 := by rw [HND.out, ← hsx.out, List.take_length]
        have e2 : htT (n + 1) t = y + 1 := by rw [HHT.out, ← hsy.out, List.take_length]
        have H1 : Hid (ndT (n + 1) t = x + 1) := e1
        have H2 : Hid (htT (n + 1) t = y + 1) := e2
        clear e1 e2 hsx hsy ih hnd hht
        go_wp2
        go_ret2
        exact ⟨congrArg _ (v_two (by rw [H1.out]; omega) (by rw [H2.out]; omega)), hbw.out⟩

end Go.Proofs.Ytjkgjckkglfokab.Gr

/- Places: the program's isPlace, fits, findKind, canGive; the document's place, taken, Len. -/
namespace Go.Proofs.Ytjkgjckkglfokab.Gr
open Go.RowKit
set_option linter.unusedVariables false
set_option linter.unusedSimpArgs false
attribute [local go_sem] Bel.cell Bel.fz

def isPlaceB (wh : Int) (a : Nat) : Bool := decide (wh = 1 ∨ wh = 2 ∨ ((wh = 3 ∨ wh = 4) ∧ a ≠ 0))

set_option maxRecDepth 100000 in
set_option maxHeartbeats 400000 in
theorem isPlace_any (w : World) (wh : Int) (a : Nat) : Calls Try.prog 33 #[.int .i64 wh, .int .u64 (a : Int)] w fun e w' => e = .returned (.bool (isPlaceB wh a)) ∧ w' = w := by
  by_cases h1 : wh = 1
  · subst h1
    go_enter Try.func33, Try.ntmps33
    go_wp2
    go_ret
    exact ⟨rfl, rfl⟩
  · by_cases h2 : wh = 2
    · subst h2
      go_enter Try.func33, Try.ntmps33
      go_wp2
      go_ret
      exact ⟨rfl, rfl⟩
    · by_cases h3 : wh = 3
      · subst h3
        go_enter Try.func33, Try.ntmps33
        go_wp2
        go_ret
        refine ⟨congrArg _ (v_bool (Bool.eq_iff_iff.2 ?_)), rfl⟩
        simp [isPlaceB]
        try omega
      · by_cases h4 : wh = 4
        · subst h4
          go_enter Try.func33, Try.ntmps33
          go_wp2
          go_ret
          refine ⟨congrArg _ (v_bool (Bool.eq_iff_iff.2 ?_)), rfl⟩
          simp [isPlaceB]
          try omega
        · have e1 : isPlaceB wh a = false := by simp [isPlaceB, h1, h2, h3, h4]
          rw [e1]
          have b1 : (wh == 1) = false := beq_eq_false_iff_ne.2 h1
          have b2 : (wh == 2) = false := beq_eq_false_iff_ne.2 h2
          have b3 : (wh == 3) = false := beq_eq_false_iff_ne.2 h3
          have b4 : (wh == 4) = false := beq_eq_false_iff_ne.2 h4
          clear h1 h2 h3 h4 e1
          go_enter Try.func33, Try.ntmps33
          go_wp2
          go_ret
          exact ⟨rfl, rfl⟩

/-- What forbids that a subtree of such a height lies under a parent. -/
def fitsE (D : Dc) (p ht : Nat) : Int := if (∃ s, sl D p = some s ∧ s.kind = 2) then 31 else if 64 < (ups D p).length + ht then 32 else 0

set_option maxRecDepth 100000 in
set_option maxHeartbeats 400000 in
theorem fits_any (w : World) (R : Nat → Prop) (db : Nat) (D : Dc) (p ht : Nat) (hv : View w R db D) (hw : WF D) (hp : p = 0 ∨ ∃ s, sl D p = some s) (hht : ht ≤ 4096) (z : Int) (hz : fitsE D p ht = z) :
    Calls Try.prog 38 #[.pointer (some ⟨db, 0, none⟩), .int .u64 (p : Int), .int .i64 (ht : Int)] w fun e w' => e = .returned (.int .i64 z) ∧ Below w.heap.size w w' := by
  obtain ⟨lv, hlv⟩ := hw.lev
  have hul : (ups D p).length ≤ 64 := by rw [ups_length hlv hp]; exact dep_le hlv hp
  have hdp := fun W (hb : Below w.heap.size w W) => depth_any W R db D p (hv.below hb) hw hp
  have HDP : Hid (∀ W, Below w.heap.size w W → Calls Try.prog 52 #[.pointer (some ⟨db, 0, none⟩), .int .u64 (p : Int)] W fun e w' => e = .returned (.int .i64 ((ups D p).length : Int)) ∧ Below W.heap.size W w') := hdp
  have hpl := hw.ltz hp
  clear hdp hlv
  cases hs : sl D p with
  | none =>
    have hfi := find_none w R db D p hv hw.fits hpl (sl_none hs)
    have hz' : (if 64 < (ups D p).length + ht then (32 : Int) else 0) = z := by
      have hn : ¬ (∃ s, sl D p = some s ∧ s.kind = 2) := by
        rintro ⟨s, h, _⟩
        rw [hs] at h
        cases h
      rw [← hz, fitsE, if_neg hn]
    generalize (ups D p).length = u at *
    clear hv hw hp hz hs
    by_cases hc : 64 < u + ht
    · rw [if_pos hc] at hz'
      have HZ : Hid (32 = z) := hz'
      clear hz'
      go_enter Try.func38, Try.ntmps38
      go_wp2_with fail
      refine hfi.mono ?_
      rintro e w1 ⟨rfl, hb1⟩
      have HB1 : Hid (Below w.heap.size w w1) := hb1
      clear hb1 hfi
      go_wp2_with fail
      refine (HDP.out w1 HB1.out).mono ?_
      rintro e w2 ⟨rfl, hb2⟩
      have HB2 : Hid (Below w.heap.size w w2) := HB1.out.trans (hb2.mono HB1.out.size)
      clear hb2
      go_wp2
      go_ret
      exact ⟨congrArg _ (v_int HZ.out), HB2.out⟩
    · rw [if_neg hc] at hz'
      have HZ : Hid (0 = z) := hz'
      clear hz'
      go_enter Try.func38, Try.ntmps38
      go_wp2_with fail
      refine hfi.mono ?_
      rintro e w1 ⟨rfl, hb1⟩
      have HB1 : Hid (Below w.heap.size w w1) := hb1
      clear hb1 hfi
      go_wp2_with fail
      refine (HDP.out w1 HB1.out).mono ?_
      rintro e w2 ⟨rfl, hb2⟩
      have HB2 : Hid (Below w.heap.size w w2) := HB1.out.trans (hb2.mono HB1.out.size)
      clear hb2
      go_wp2
      go_ret
      exact ⟨congrArg _ (v_int HZ.out), HB2.out⟩
  | some s =>
    obtain ⟨i, ha, hsi, -⟩ := sl_live hs
    obtain ⟨b, o, cap, aa, ac, ka, kc, h1, hcl, hbR, c0, c1, c2, -⟩ := hv.slot hsi
    have hfi := find_some w R db D p i hv hw.fits hpl ha b o cap h1
    have hbl := hv.lt b hbR
    by_cases k2 : s.kind = 2
    · have hz' : z = 31 := by rw [← hz, fitsE, if_pos ⟨s, hs, k2⟩]
      rw [k2] at c2
      clear hv hw hp hz hs ha hsi k2 HDP
      go_enter Try.func38, Try.ntmps38
      go_wp2_with fail
      refine hfi.mono ?_
      rintro e w1 ⟨rfl, hb1⟩
      obtain ⟨hcc, -⟩ := bcell hb1
      have HB1 : Hid (Below w.heap.size w w1) := hb1
      clear hb1 hfi
      go_wp2
      go_ret
      exact ⟨congrArg _ (v_int hz'.symm), HB1.out⟩
    · have hz' : (if 64 < (ups D p).length + ht then (32 : Int) else 0) = z := by
        have hn : ¬ (∃ s, sl D p = some s ∧ s.kind = 2) := by
          rintro ⟨s', h, h2⟩
          rw [hs] at h
          cases h
          exact k2 h2
        rw [← hz, fitsE, if_neg hn]
      have hkb : (s.kind == 2) = false := beq_eq_false_iff_ne.2 k2
      generalize (ups D p).length = u at *
      clear hv hw hp hz hs ha hsi k2
      by_cases hc : 64 < u + ht
      · rw [if_pos hc] at hz'
        have HZ : Hid (32 = z) := hz'
        clear hz'
        go_enter Try.func38, Try.ntmps38
        go_wp2_with fail
        refine hfi.mono ?_
        rintro e w1 ⟨rfl, hb1⟩
        obtain ⟨hcc, -⟩ := bcell hb1
        have HB1 : Hid (Below w.heap.size w w1) := hb1
        clear hb1 hfi
        go_wp2_with fail
        refine (HDP.out w1 HB1.out).mono ?_
        rintro e w2 ⟨rfl, hb2⟩
        have HB2 : Hid (Below w.heap.size w w2) := HB1.out.trans (hb2.mono HB1.out.size)
        clear hb2
        go_wp2
        go_ret
        exact ⟨congrArg _ (v_int HZ.out), HB2.out⟩
      · rw [if_neg hc] at hz'
        have HZ : Hid (0 = z) := hz'
        clear hz'
        go_enter Try.func38, Try.ntmps38
        go_wp2_with fail
        refine hfi.mono ?_
        rintro e w1 ⟨rfl, hb1⟩
        obtain ⟨hcc, -⟩ := bcell hb1
        have HB1 : Hid (Below w.heap.size w w1) := hb1
        clear hb1 hfi
        go_wp2_with fail
        refine (HDP.out w1 HB1.out).mono ?_
        rintro e w2 ⟨rfl, hb2⟩
        have HB2 : Hid (Below w.heap.size w w2) := HB1.out.trans (hb2.mono HB1.out.size)
        clear hb2
        go_wp2
        go_ret
        exact ⟨congrArg _ (v_int HZ.out), HB2.out⟩

set_option maxRecDepth 100000 in
set_option maxHeartbeats 400000 in
theorem canGive_any (w : World) (g : Nat) (lv : Bool) (k : Int) (nm : ByteArray) (av : Value) (tx : ByteArray) (p : Nat) (kv : Value) :
    Calls Try.prog 53 #[.agg #[.int .u32 (g : Int), .bool lv, .int .i64 k, .string nm, av, .string tx, .int .u64 (p : Int), kv]] w fun e w' => e = .returned (.bool (!lv && decide (g < 4294967295))) ∧ Below w.heap.size w w' := by
  cases lv
  · go_enter Try.func53, Try.ntmps53
    go_wp2
    go_ret
    refine ⟨congrArg _ (v_bool (Bool.eq_iff_iff.2 ?_)), below_new' w _⟩
    simp
    try omega
  · go_enter Try.func53, Try.ntmps53
    go_wp2
    go_ret
    exact ⟨rfl, below_new' w _⟩

end Go.Proofs.Ytjkgjckkglfokab.Gr

/- Places, by the document; how many indexes are taken. -/
namespace Go.Proofs.Ytjkgjckkglfokab.Gr
open Go.RowKit
set_option linter.unusedVariables false
set_option linter.unusedSimpArgs false
attribute [local go_sem] Bel.cell Bel.fz

/-- How many slots a test holds of. -/
def cnt (f : Sl → Bool) (S : List Sl) : Nat := (S.filter f).length
def takenB (s : Sl) : Bool := s.live || decide (s.gen = 4294967295)

end Go.Proofs.Ytjkgjckkglfokab.Gr

/- Slots in a row of cells, eight a slot: read, stored into, copied. -/
namespace Go.Proofs.Ytjkgjckkglfokab.Gr
open Go.RowKit
set_option linter.unusedVariables false
set_option linter.unusedSimpArgs false

/-- What is there at each place, as a list. -/
theorem list_of {α : Type} : ∀ (len : Nat) (p : Nat → α → Prop), (∀ i, i < len → ∃ k, p i k) → ∃ L : List α, L.length = len ∧ ∀ i k, L[i]? = some k → p i k
  | 0, p, h => ⟨[], rfl, fun i k hk => by simp at hk⟩
  | len + 1, p, h => by
    obtain ⟨L, hl, hL⟩ := list_of len p (fun i hi => h i (by omega))
    obtain ⟨x, hx⟩ := h len (by omega)
    refine ⟨L ++ [x], by simp [hl], fun i k hk => ?_⟩
    rcases Nat.lt_or_ge i len with hi | hi
    · rw [List.getElem?_append_left (by omega)] at hk
      exact hL i k hk
    · have : i = len := by
        have := (List.getElem?_eq_some_iff.1 hk).1
        simp at this
        omega
      subst this
      rw [List.getElem?_append_right (by omega), hl] at hk
      simp at hk
      subst hk
      exact hx

/-- A slot's eight cells. -/
def slotCells (s : Sl) (p : Value × Value) : List Value := [.int .u32 (s.gen : Int), .bool s.live, .int .i64 s.kind, .string s.name, p.1, .string s.text, .int .u64 (s.parent : Int), p.2]
def rowOf (S : List Sl) (L : List (Value × Value)) : List Value := (S.zip L).flatMap fun x => slotCells x.1 x.2

theorem flat8_get {α : Type} (f : α → List Value) (hf : ∀ x, (f x).length = 8) : ∀ (l : List α) (i j : Nat), j < 8 → (l.flatMap f)[i * 8 + j]? = (l[i]?).bind fun x => (f x)[j]?
  | [], i, j, _ => by simp
  | a :: r, 0, j, hj => by
    rw [List.flatMap_cons, List.getElem?_append_left (by rw [hf]; omega)]
    simp
  | a :: r, i + 1, j, hj => by
    rw [List.flatMap_cons, List.getElem?_append_right (by rw [hf]; omega), hf]
    rw [show (i + 1) * 8 + j - 8 = i * 8 + j from by omega, flat8_get f hf r i j hj]
    simp
theorem flat8_len {α : Type} (f : α → List Value) (hf : ∀ x, (f x).length = 8) : ∀ (l : List α), (l.flatMap f).length = l.length * 8
  | [] => rfl
  | a :: r => by
    rw [List.flatMap_cons, List.length_append, hf, flat8_len f hf r, List.length_cons]
    omega

theorem zip_get {S : List Sl} {L : List (Value × Value)} {i : Nat} {s : Sl} {p : Value × Value} (h1 : S[i]? = some s) (h2 : L[i]? = some p) : (S.zip L)[i]? = some (s, p) := by
  rw [List.getElem?_zip_eq_some]
  exact ⟨h1, h2⟩

theorem rowOf_len {S : List Sl} {L : List (Value × Value)} (h : L.length = S.length) : (rowOf S L).length = S.length * 8 := by
  unfold rowOf
  rw [flat8_len _ (fun x => rfl), List.length_zip, h, Nat.min_self]
theorem rowOf_get {S : List Sl} {L : List (Value × Value)} {i j : Nat} {s : Sl} {p : Value × Value} (h1 : S[i]? = some s) (h2 : L[i]? = some p) (hj : j < 8) : (rowOf S L)[i * 8 + j]? = (slotCells s p)[j]? := by
  unfold rowOf
  rw [flat8_get _ (fun x => rfl) _ i j hj, zip_get h1 h2]
  rfl

/-- One cell of one slot stored. -/
theorem rowOf_set {S : List Sl} {L : List (Value × Value)} (h : L.length = S.length) {i j : Nat} {s s' : Sl} {p p' : Value × Value} (h1 : S[i]? = some s) (h2 : L[i]? = some p) (hj : j < 8) {u : Value} (hs : slotCells s' p' = (slotCells s p).set j u) :
    rowOf (S.set i s') (L.set i p') = (rowOf S L).set (i * 8 + j) u := by
  have hi := (List.getElem?_eq_some_iff.1 h1).1
  apply List.ext_getElem?
  intro m
  rcases Nat.lt_or_ge m (S.length * 8) with hm | hm
  · have em : m = m / 8 * 8 + m % 8 := by omega
    have hm8 : m % 8 < 8 := Nat.mod_lt _ (by omega)
    obtain ⟨sm, hsm⟩ : ∃ x, (S.set i s')[m / 8]? = some x := ⟨_, List.getElem?_eq_getElem (by simp; omega)⟩
    obtain ⟨pm, hpm⟩ : ∃ x, (L.set i p')[m / 8]? = some x := ⟨_, List.getElem?_eq_getElem (by simp; omega)⟩
    rw [em, rowOf_get hsm hpm hm8]
    by_cases hq : m / 8 = i
    · rw [hq, List.getElem?_set_self hi] at hsm
      rw [hq, List.getElem?_set_self (by omega)] at hpm
      cases hsm
      cases hpm
      rw [hs, hq]
      by_cases hr : m % 8 = j
      · rw [hr, List.getElem?_set_self (by show j < 8; exact hj), List.getElem?_set_self (by rw [rowOf_len h]; omega)]
      · rw [List.getElem?_set_ne (by omega), List.getElem?_set_ne (by omega), rowOf_get h1 h2 hm8]
    · rw [List.getElem?_set_ne (by omega)] at hsm hpm
      rw [List.getElem?_set_ne (by omega), rowOf_get hsm hpm hm8]
  · rw [List.getElem?_eq_none (by rw [rowOf_len (by simp [h])]; simp; omega), List.getElem?_eq_none (by simp; rw [rowOf_len h]; omega)]

/-- The lists of a slot, as they stand in its cells. -/
def SlotVals (w : World) (R : Nat → Prop) (s : Sl) (p : Value × Value) : Prop :=
  ∃ (aa : Option Addr) (ac : Nat) (ka : Option Addr) (kc : Nat), p = (.slice aa s.attrs.length ac, .slice ka s.kids.length kc) ∧ s.attrs.length ≤ ac ∧ s.kids.length ≤ kc ∧ AttrsR w R aa s.attrs ∧ HandsAt w R ka s.kids

theorem SlotVals.to {w w' : World} {R R' : Nat → Prop} {s : Sl} {p : Value × Value} (h : SlotVals w R s p) (hR : ∀ b, R b → R' b) (hc : ∀ b o, R b → w'.cell? ⟨b, o, none⟩ = w.cell? ⟨b, o, none⟩) : SlotVals w' R' s p := by
  obtain ⟨aa, ac, ka, kc, h1, h2, h3, h4, h5⟩ := h
  exact ⟨aa, ac, ka, kc, h1, h2, h3, h4.to hR hc, h5.to hR hc⟩

/-- Slots in memory are a row of cells. -/
theorem SlotsAt.row {w : World} {R : Nat → Prop} {a : Option Addr} {S : List Sl} (h : SlotsAt w R a S) : ∃ L : List (Value × Value), L.length = S.length ∧ (∀ (i : Nat) (s : Sl) (p : Value × Value), S[i]? = some s → L[i]? = some p → SlotVals w R s p) ∧ ∀ j u, (rowOf S L)[j]? = some u → ∃ ad, a = some ad ∧ w.cell? (ad.add j) = some u := by
  obtain ⟨L, hl, hL⟩ := list_of S.length (fun i (p : Value × Value) => ∃ s b o, S[i]? = some s ∧ a = some ⟨b, o, none⟩ ∧ SlotVals w R s p ∧ ∀ j u, (slotCells s p)[j]? = some u → w.cell? ⟨b, o + (i * 8 + j), none⟩ = some u) (fun i hi => by
    obtain ⟨s, hs⟩ : ∃ s, S[i]? = some s := ⟨_, List.getElem?_eq_getElem hi⟩
    obtain ⟨b, o, h1, h2, aa, ac, ka, kc, c0, c1, c2, c3, c4, c5, c6, c7, l1, l2, h3, h4⟩ := h i s hs
    refine ⟨(.slice aa s.attrs.length ac, .slice ka s.kids.length kc), s, b, o, hs, h1, ⟨aa, ac, ka, kc, rfl, l1, l2, h3, h4⟩, fun j u hu => ?_⟩
    have hj := (List.getElem?_eq_some_iff.1 hu).1
    have hj8 : j < 8 := hj
    rw [← Nat.add_assoc]
    match j, hj8 with
    | 0, _ => simp [slotCells] at hu; rw [← hu]; exact c0
    | 1, _ => simp [slotCells] at hu; rw [← hu]; exact c1
    | 2, _ => simp [slotCells] at hu; rw [← hu]; exact c2
    | 3, _ => simp [slotCells] at hu; rw [← hu]; exact c3
    | 4, _ => simp [slotCells] at hu; rw [← hu]; exact c4
    | 5, _ => simp [slotCells] at hu; rw [← hu]; exact c5
    | 6, _ => simp [slotCells] at hu; rw [← hu]; exact c6
    | 7, _ => simp [slotCells] at hu; rw [← hu]; exact c7)
  refine ⟨L, hl, fun i s p hs hp => ?_, fun j u hu => ?_⟩
  · obtain ⟨s', b, o, e1, _, e2, _⟩ := hL i p hp
    rw [hs] at e1
    cases e1
    exact e2
  · have hj := (List.getElem?_eq_some_iff.1 hu).1
    rw [rowOf_len hl] at hj
    have em : j = j / 8 * 8 + j % 8 := by omega
    obtain ⟨p, hp⟩ : ∃ p, L[j / 8]? = some p := ⟨_, List.getElem?_eq_getElem (by omega)⟩
    obtain ⟨s, b, o, e1, e2, _, e3⟩ := hL _ p hp
    rw [em, rowOf_get e1 hp (Nat.mod_lt _ (by omega))] at hu
    refine ⟨_, e2, ?_⟩
    rw [addr_plus, em]
    exact e3 _ u hu

/-- A row of cells is slots in memory. -/
theorem slots_row {w : World} {R : Nat → Prop} {base : Nat} {e : TypeId} {a : Option Addr} {n cap : Nat} {S : List Sl} {L : List (Value × Value)} (hl : L.length = S.length) (hown : w.ownsRow base e 8 (.slice a n cap) n (rowOf S L)) (hv : ∀ (i : Nat) (s : Sl) (p : Value × Value), S[i]? = some s → L[i]? = some p → SlotVals w R s p)
    (hR : ∀ g, a = some ⟨g, 0, none⟩ → base ≤ g → g < w.heap.size → R g) : SlotsAt w R a S ∧ n = S.length ∧ n ≤ cap := by
  obtain ⟨h1, h2, h3⟩ := row_cell hown
  rw [rowOf_len hl] at h2
  refine ⟨fun i s hs => ?_, by omega, h1⟩
  have hi := (List.getElem?_eq_some_iff.1 hs).1
  obtain ⟨p, hp⟩ : ∃ p, L[i]? = some p := ⟨_, List.getElem?_eq_getElem (by omega)⟩
  have hc : ∀ j u, (slotCells s p)[j]? = some u → ∃ g, a = some ⟨g, 0, none⟩ ∧ base ≤ g ∧ g < w.heap.size ∧ w.cell? ⟨g, i * 8 + j, none⟩ = some u := fun j u hu => by
    have hj8 : j < 8 := (List.getElem?_eq_some_iff.1 hu).1
    exact h3 _ u (by rw [rowOf_get hs hp hj8]; exact hu)
  obtain ⟨g, rfl, hb, hlt, c0⟩ := hc 0 _ rfl
  have hg : ∀ j u, (slotCells s p)[j]? = some u → w.cell? ⟨g, i * 8 + j, none⟩ = some u := fun j u hu => by
    obtain ⟨g', e1, _, _, e2⟩ := hc j u hu
    cases e1
    exact e2
  obtain ⟨aa, ac, ka, kc, rfl, l1, l2, v1, v2⟩ := hv i s p hs hp
  refine ⟨g, 0, rfl, hR g rfl hb hlt, aa, ac, ka, kc, ?_⟩
  rw [Nat.zero_add]
  exact ⟨hg 0 _ rfl, hg 1 _ rfl, hg 2 _ rfl, hg 3 _ rfl, hg 4 _ rfl, hg 5 _ rfl, hg 6 _ rfl, hg 7 _ rfl, l1, l2, v1, v2⟩

/-- A cell of a row of one's own stored. -/
theorem own_set {w : World} {base : Nat} {e : TypeId} {size : Nat} {g n cap : Nat} {xs : List Value} (h : w.ownsRow base e size (.slice (some ⟨g, 0, none⟩) n cap) n xs) (j : Nat) (u : Value) : (w.setCell ⟨g, j, none⟩ u).ownsRow base e size (.slice (some ⟨g, 0, none⟩) n cap) n (xs.set j u) := by
  refine ⟨by rw [List.length_set]; exact h.1, ?_⟩
  rcases h.2 with ⟨e1, _⟩ | ⟨g', cap', cur, e1, hb, hh, h1, h2, h3, h4⟩
  · cases e1
  · simp only [Value.slice.injEq, Option.some.injEq, Addr.mk.injEq, and_true, true_and] at e1
    obtain ⟨rfl, rfl⟩ := e1
    refine .inr ⟨g, cap, cur.setIfInBounds j u, rfl, hb, ?_, h1, h2, by simpa using h3, ?_⟩
    · simp [World.setCell, Array.getElem?_modify, hh]
    · rw [Array.toList_setIfInBounds, List.take_set, h4]

theorem own_frozen {w : World} {base : Nat} {e : TypeId} {size : Nat} {g n cap : Nat} {xs : List Value} (h : w.ownsRow base e size (.slice (some ⟨g, 0, none⟩) n cap) n xs) (j : Nat) : w.frozen? ⟨g, j, none⟩ = false := by
  rcases h.2 with ⟨e1, _⟩ | ⟨g', cap', cur, e1, hb, hh, h1, h2, h3, h4⟩
  · cases e1
  · simp only [Value.slice.injEq, Option.some.injEq, Addr.mk.injEq, and_true, true_and] at e1
    obtain ⟨rfl, rfl⟩ := e1
    simp [World.frozen?, hh]

end Go.Proofs.Ytjkgjckkglfokab.Gr

/- The document's own documents: what they hold, and how they change. -/
namespace Go.Proofs.Ytjkgjckkglfokab.Gr
open Go.RowKit
set_option linter.unusedVariables false
set_option linter.unusedSimpArgs false

theorem info75 : InfoOf Try.prog 79 (.agg #[.int .u32 0, .bool false, .int .i64 0, .string ⟨#[]⟩, .slice none 0 0, .string ⟨#[]⟩, .int .u64 0, .slice none 0 0]) 8 104 := by unfold InfoOf; kernel_rfl

/-- A document of the document's: its block, and lists that nobody changes. -/
structure RDoc (w : World) (Q : Nat → Prop) (rb : Nat) (D : Dc) : Prop where
  lt : ∀ b, Q b → b < w.heap.size
  nrb : ¬ Q rb
  head : ∃ sa scap ra rcap, IsCells w rb #[.slice sa D.S.length scap, .slice ra D.roots.length rcap] ∧ D.S.length ≤ scap ∧ D.roots.length ≤ rcap ∧ SlotsAt w Q sa D.S ∧ HandsAt w Q ra D.roots

theorem RDoc.rbl {w : World} {Q : Nat → Prop} {rb : Nat} {D : Dc} (h : RDoc w Q rb D) : rb < w.heap.size := by
  obtain ⟨_, _, _, _, h1, _⟩ := h.head
  exact h1.lt
theorem RDoc.view {w : World} {Q : Nat → Prop} {rb : Nat} {D : Dc} (h : RDoc w Q rb D) : View w (fun b => Q b ∨ b = rb) rb D := by
  obtain ⟨sa, scap, ra, rcap, h1, h2, h3, h4, h5⟩ := h.head
  refine ⟨.inr rfl, fun b hb => ?_, ⟨sa, scap, by rw [h1.cell]; rfl, h2, h4.to (fun _ h => .inl h) (fun _ _ _ => rfl)⟩, ⟨ra, rcap, by rw [h1.cell]; rfl, h3, h5.to (fun _ h => .inl h) (fun _ _ _ => rfl)⟩⟩
  rcases hb with hb | rfl
  · exact h.lt b hb
  · exact h1.lt
theorem RDoc.turn {w w' : World} {Q A : Nat → Prop} {rb : Nat} {D : Dc} (h : RDoc w Q rb D) (ht : Turn A w w') (hA : ∀ b, Q b → ¬ A b) (hr : ¬ A rb) : RDoc w' Q rb D := by
  obtain ⟨sa, scap, ra, rcap, h1, h2, h3, h4, h5⟩ := h.head
  have hc : ∀ b o, Q b → w'.cell? ⟨b, o, none⟩ = w.cell? ⟨b, o, none⟩ := fun b o hb => World.cell?_of_block (w := w) (a := ⟨b, o, none⟩) (ht.block b (h.lt b hb) (hA b hb))
  exact ⟨fun b hb => Nat.lt_of_lt_of_le (h.lt b hb) ht.size, h.nrb, sa, scap, ra, rcap, h1.of_block (ht.block rb h1.lt hr), h2, h3, h4.to (fun _ h => h) hc, h5.to (fun _ h => h) hc⟩
theorem below_turn {w w' : World} (h : Below w.heap.size w w') : Turn (fun _ => False) w w' := ⟨h.os, h.tape, h.output, h.size, fun k hk _ => h.block k hk⟩
theorem RDoc.below {w w' : World} {Q : Nat → Prop} {rb : Nat} {D : Dc} (h : RDoc w Q rb D) (hb : Below w.heap.size w w') : RDoc w' Q rb D := h.turn (below_turn hb) (fun _ _ h => h) (fun h => h)

/-- Under change: the slots in a row of its own. -/
structure RdS (w : World) (base : Nat) (Q : Nat → Prop) (rb : Nat) (D : Dc) (g cap : Nat) (ra : Option Addr) (rcap : Nat) (L : List (Value × Value)) : Prop where
  head : IsCells w rb #[.slice (some ⟨g, 0, none⟩) D.S.length cap, .slice ra D.roots.length rcap]
  own : w.ownsRow base 79 8 (.slice (some ⟨g, 0, none⟩) D.S.length cap) D.S.length (rowOf D.S L)
  len : L.length = D.S.length
  vals : ∀ (i : Nat) (s : Sl) (p : Value × Value), D.S[i]? = some s → L[i]? = some p → SlotVals w Q s p
  roots : HandsAt w Q ra D.roots
  rlen : D.roots.length ≤ rcap
  qne : ∀ b, Q b → b ≠ g ∧ b < w.heap.size
  nrb : ¬ Q rb
  rbl : rb < base

theorem RdS.gb {w : World} {base : Nat} {Q : Nat → Prop} {rb : Nat} {D : Dc} {g cap : Nat} {ra : Option Addr} {rcap : Nat} {L : List (Value × Value)} (h : RdS w base Q rb D g cap ra rcap L) : base ≤ g ∧ g < w.heap.size := own_block_lt h.own g rfl
theorem RdS.bs {w : World} {base : Nat} {Q : Nat → Prop} {rb : Nat} {D : Dc} {g cap : Nat} {ra : Option Addr} {rcap : Nat} {L : List (Value × Value)} (h : RdS w base Q rb D g cap ra rcap L) : base ≤ w.heap.size := by
  have := h.gb
  omega

/-- Nothing of it was touched. -/
theorem RdS.turn {w w' : World} {base : Nat} {Q A : Nat → Prop} {rb : Nat} {D : Dc} {g cap : Nat} {ra : Option Addr} {rcap : Nat} {L : List (Value × Value)} (h : RdS w base Q rb D g cap ra rcap L) (ht : Turn A w w') (hA : ∀ b, Q b → ¬ A b) (hr : ¬ A rb) (hg : ¬ A g) : RdS w' base Q rb D g cap ra rcap L := by
  have hbs := h.bs
  have hc : ∀ b o, Q b → w'.cell? ⟨b, o, none⟩ = w.cell? ⟨b, o, none⟩ := fun b o hb => World.cell?_of_block (w := w) (a := ⟨b, o, none⟩) (ht.block b (h.qne b hb).2 (hA b hb))
  exact ⟨h.head.of_block (ht.block rb h.head.lt hr), own_of_block h.own (fun k hk => by cases hk; exact ht.block g h.gb.2 hg), h.len, fun i s p hs hp => (h.vals i s p hs hp).to (fun _ h => h) hc, h.roots.to (fun _ h => h) hc, h.rlen, fun b hb => ⟨(h.qne b hb).1, Nat.lt_of_lt_of_le (h.qne b hb).2 ht.size⟩, h.nrb, h.rbl⟩
theorem RdS.below {w w' : World} {base : Nat} {Q : Nat → Prop} {rb : Nat} {D : Dc} {g cap : Nat} {ra : Option Addr} {rcap : Nat} {L : List (Value × Value)} (h : RdS w base Q rb D g cap ra rcap L) (hb : Below w.heap.size w w') : RdS w' base Q rb D g cap ra rcap L := h.turn (below_turn hb) (fun _ _ h => h) (fun h => h) (fun h => h)

/-- One cell of one slot stored: plain cells. -/
theorem RdS.store {w : World} {base : Nat} {Q : Nat → Prop} {rb : Nat} {D : Dc} {g cap : Nat} {ra : Option Addr} {rcap : Nat} {L : List (Value × Value)} (h : RdS w base Q rb D g cap ra rcap L) {i j : Nat} {s s' : Sl} {p p' : Value × Value} {u : Value} (hs : D.S[i]? = some s) (hp : L[i]? = some p) (hj : j < 8) (hc : slotCells s' p' = (slotCells s p).set j u)
    (hv : SlotVals w Q s' p') : RdS (w.setCell ⟨g, i * 8 + j, none⟩ u) base Q rb { D with S := D.S.set i s' } g cap ra rcap (L.set i p') := by
  have hgb := h.gb
  have hrb := h.rbl
  have hne : ∀ b, Q b → b ≠ g := fun b hb => (h.qne b hb).1
  have hcell : ∀ b o, Q b → (w.setCell ⟨g, i * 8 + j, none⟩ u).cell? ⟨b, o, none⟩ = w.cell? ⟨b, o, none⟩ := fun b o hb => World.cell?_of_block (w := w) (a := ⟨b, o, none⟩) (Below.heap_setCell _ _ _ _ (hne b hb))
  have hi := (List.getElem?_eq_some_iff.1 hs).1
  refine ⟨?_, ?_, by simp [h.len], fun k x y hx hy => ?_, h.roots.to (fun _ h => h) hcell, h.rlen, fun b hb => ⟨(h.qne b hb).1, by simpa [World.setCell] using (h.qne b hb).2⟩, h.nrb, h.rbl⟩
  · have := h.head.other (a := ⟨g, i * 8 + j, none⟩) (by show rb ≠ g; omega) u
    simpa using this
  · have := own_set h.own (i * 8 + j) u
    rw [← rowOf_set h.len hs hp hj hc] at this
    simpa using this
  · by_cases hk : k = i
    · subst hk
      rw [List.getElem?_set_self hi] at hx
      rw [List.getElem?_set_self (by rw [h.len]; exact hi)] at hy
      cases hx
      cases hy
      exact hv.to (fun _ h => h) hcell
    · rw [List.getElem?_set_ne (by omega)] at hx hy
      exact (h.vals k x y hx hy).to (fun _ h => h) hcell

end Go.Proofs.Ytjkgjckkglfokab.Gr
