/- What is wrong with a tree: the document's answer; both at the face. -/
import Derived.Test.YtjkgjckkglfokabL05
import Derived.Maps.AppendAt
import Derived.Deep.AppendSrc
import Derived.Laws.Bits64b
namespace Go.Proofs.Ytjkgjckkglfokab.Gr
open Go.RowKit
set_option linter.unusedVariables false
set_option linter.unusedSimpArgs false

theorem KidsAt.below {w w' : World} {lo hi n : Nat} {ka : Option Addr} {L : List (T n)} (h : KidsAt w lo hi n ka L) {B : Nat} (hb : Below B w w') (hs : hi ≤ B) : KidsAt w' lo hi n ka L :=
  h.of_cells (fun b o _ hb2 => hb.cell (p := ⟨b, o, none⟩) (show b < B by omega))
theorem AttrsAt.below {w w' : World} {lo hi : Nat} {a : Option Addr} {l : List (ByteArray × ByteArray)} (h : AttrsAt w lo hi a l) {B : Nat} (hb : Below B w w') (hs : hi ≤ B) : AttrsAt w' lo hi a l :=
  h.of_cells (fun b o _ hb2 => hb.cell (p := ⟨b, o, none⟩) (show b < B by omega))

set_option maxRecDepth 100000 in
set_option maxHeartbeats 1000000 in
theorem Check_any (n : Nat) (w : World) (v : Array Value) (t : T n) (lo hi : Nat) (h : TreeAt w lo hi n v t) (hsz : hi ≤ w.heap.size) :
    Calls Try.prog 34 #[.agg v] w fun e w' => e = .returned (.int .i64 (chk n t 1 0).2) ∧ Below w.heap.size w w' := by
  obtain ⟨k, nm, a, al, ac, tx, ka, kl, kc, rfl⟩ := h.form
  have hb0 : Below w.heap.size w ((w.alloc (.cells #[.int .i64 k, .string nm, .slice a al ac, .string tx, .slice ka kl kc] 48)).alloc (.cells #[.int .i64 0] 3)) := (below_new' w _).alloc (by simp) _
  have hi0 : IsCells ((w.alloc (.cells #[.int .i64 k, .string nm, .slice a al ac, .string tx, .slice ka kl kc] 48)).alloc (.cells #[.int .i64 0] 3)) (w.heap.size + 1) #[.int .i64 0] := by
    have := isCells_new (w.alloc (.cells #[.int .i64 k, .string nm, .slice a al ac, .string tx, .slice ka kl kc] 48)) #[.int .i64 0] 3
    simpa using this
  have HC := check_any n _ _ t lo hi (w.heap.size + 1) 1 0 (h.below hb0 hsz) (by omega) hi0 (by omega) (by omega) (by omega) (by omega)
  have HB0 : Hid (Below w.heap.size w ((w.alloc (.cells #[.int .i64 k, .string nm, .slice a al ac, .string tx, .slice ka kl kc] 48)).alloc (.cells #[.int .i64 0] 3))) := hb0
  clear h hb0 hi0
  go_enter Try.func34, Try.ntmps34
  go_wp2_with fail
  refine HC.mono ?_
  rintro e w1 ⟨rfl, ht1, _⟩
  go_wp2
  go_ret
  exact ⟨rfl, HB0.out.trans (ht1.below (by simp; omega) (fun k hk => by omega))⟩

end Go.Proofs.Ytjkgjckkglfokab.Gr

/- append onto a row of one's own, from a slice that may be nil: the new value written out, and where it lies. -/
namespace Go.Proofs.Ytjkgjckkglfokab.Gr
open Go.RowKit
set_option linter.unusedVariables false
set_option linter.unusedSimpArgs false

/-- What is known of an element's type. -/
def InfoOf (P : Program) (e : TypeId) (z : Value) (size bytes : Nat) : Prop := (P.info? e).map (fun i => (i.zero, i.size, i.bytes)) = some (some z, size, bytes)

theorem InfoOf.parts {P : Program} {e : TypeId} {z : Value} {size bytes : Nat} (h : InfoOf P e z size bytes) : ∃ i, P.info? e = some i ∧ i.zero = some z ∧ i.size = size ∧ i.bytes = bytes := by
  unfold InfoOf at h
  cases hi : P.info? e with
  | none => rw [hi] at h; cases h
  | some i =>
    rw [hi] at h
    simp only [Option.map_some, Option.some.injEq, Prod.mk.injEq] at h
    exact ⟨i, rfl, h.1, h.2.1, h.2.2⟩

theorem run_app {P : Program} {t ty e : TypeId} {z : Value} {size bytes : Nat} (ht : P.underlying t = some (.slice e)) (hi : InfoOf P e z size bytes) (hzs : z.cells.size = size) (hsz : 0 < size)
    (w : World) (base : Nat) (v : Value) (n : Nat) (xs : List Value) (hown : w.ownsRow base e size v n xs) (a : Option Addr) (m c : Nat) (news : List Value) (hl : news.length = m * size)
    (hnews : ∀ j u, news[j]? = some u → ∃ ad, a = some ad ∧ w.cell? (ad.add j) = some u) (h1 : ∀ u ∈ news, u.oneCell' = true) (h63 : n + m ≤ maxLen) (hbytes : (n + m) * bytes ≤ 140737488355328) (hbase : base ≤ w.heap.size) :
    ∃ v' w', (Builtin.append_ #[t, t] ty #[v, .slice a m c]).run P w = .ok v' w' ∧ w'.ownsRow base e size v' (n + m) (xs ++ news) ∧ w.grownBy w' v.ownBlock ∧
      (v' = .slice none 0 0 ↔ v = .slice none 0 0 ∧ m = 0) ∧ (v'.ownBlock = v.ownBlock ∨ v'.ownBlock = some w.heap.size) := by
  obtain ⟨i, hi0, hz0, hz1, hz2⟩ := hi.parts
  cases a with
  | some ad =>
    exact run_append_own_at (P := P) w base t ty e i z size bytes ht hi0 hz0 hz1 hz2 hzs hsz v n xs hown ad m c news hl (fun j u hu => by
      obtain ⟨ad', h, h'⟩ := hnews j u hu
      cases h
      exact h') h1 h63 hbytes hbase
  | none =>
    have hn : news = [] := by
      cases news with
      | nil => rfl
      | cons u r =>
        obtain ⟨ad', h, _⟩ := hnews 0 u rfl
        cases h
    subst hn
    have hm : m = 0 := by
      simp only [List.length_nil] at hl
      rcases Nat.mul_eq_zero.1 hl.symm with h | h
      · exact h
      · omega
    subst hm
    refine ⟨v, w, ?_, by simpa using hown, ⟨rfl, rfl, rfl, Nat.le_refl _, fun _ _ _ => rfl⟩, by simp, .inl rfl⟩
    rcases hown.2 with ⟨rfl, rfl⟩ | ⟨g, cap, cur, rfl, _, _, hc, _⟩
    · simp [Builtin.append_, run_underlying ht, sizeOf, typeInfo, hi0, Builtin.lenOf, Builtin.firstCells]
    · have h := run_append_room_src (P := P) w t t ty e i ht hi0 g 0 n cap (.slice none 0 c) 0 [] (by rw [hz1]; exact Src.ofNil w ht c) (by omega) (by simp) (by simp)
      simpa [World.setCells] using h

/-- At the operation, for the walk. -/
theorem wpList_app {P : Program} {t e : TypeId} {z : Value} {size bytes : Nat} {w : World} {ops : Array Oper} {rest : List Oper} {o : Oper} {ac : Act} {Q : Exit → Act → World → Prop} (hgd : o.guard = none) (s x : Operand)
    (ho : o.op = .call { callee := .builtin .append, args := #[s, x], argTypes := #[t, t] }) (ht : P.underlying t = some (.slice e)) (hi : InfoOf P e z size bytes) (hzs : z.cells.size = size) (hsz : 0 < size)
    (base : Nat) (v : Value) (n : Nat) (xs : List Value) (hs : ac.eval s = v) (hown : w.ownsRow base e size v n xs) (a : Option Addr) (m c : Nat) (news : List Value) (hx : ac.eval x = .slice a m c) (hl : news.length = m * size)
    (hnews : ∀ j u, news[j]? = some u → ∃ ad, a = some ad ∧ w.cell? (ad.add j) = some u) (h1 : ∀ u ∈ news, u.oneCell' = true) (h63 : n + m ≤ maxLen) (hbytes : (n + m) * bytes ≤ 140737488355328) (hbase : base ≤ w.heap.size)
    (hK : ∀ v' w', w'.ownsRow base e size v' (n + m) (xs ++ news) → w.grownBy w' v.ownBlock → (v' = .slice none 0 0 ↔ v = .slice none 0 0 ∧ m = 0) → (v'.ownBlock = v.ownBlock ∨ v'.ownBlock = some w.heap.size) → wpList P ops Q rest (ac.put o.dst v') w') : wpList P ops Q (o :: rest) ac w := by
  refine wpList_plain hgd fun K hK' => ?_
  obtain ⟨v', w', hr, h2, h3, h4, h5⟩ := run_app (ty := o.type) ht hi hzs hsz w base v n xs hown a m c news hl hnews h1 h63 hbytes hbase
  unfold Oper.wp execOp
  simp only [ho, resolve, invoke, builtin, Sem.run_bind, Sem.run_pure, Result.andThen_ok, List.map_toArray, List.map_cons, List.map_nil, hs, hx, hr]
  exact hK' _ _ (hK v' w' h2 h3 h4 h5)

/-- What a row's first cells are, in memory. -/
theorem row_cell {w : World} {base : Nat} {e : TypeId} {size : Nat} {a : Option Addr} {n cap : Nat} {xs : List Value} (h : w.ownsRow base e size (.slice a n cap) n xs) :
    n ≤ cap ∧ xs.length = n * size ∧ ∀ j u, xs[j]? = some u → ∃ g, a = some ⟨g, 0, none⟩ ∧ base ≤ g ∧ g < w.heap.size ∧ w.cell? ⟨g, j, none⟩ = some u := by
  rcases h.2 with ⟨e1, e2⟩ | ⟨g, cap', cur, e1, hb, hh, h1, h2, h3, h4⟩
  · simp only [Value.slice.injEq] at e1
    obtain ⟨rfl, _, rfl⟩ := e1
    subst e2
    refine ⟨Nat.le_refl _, h.1, fun j u hu => ?_⟩
    have : xs = [] := List.length_eq_zero_iff.1 (by rw [h.1]; simp)
    rw [this] at hu
    simp at hu
  · simp only [Value.slice.injEq, true_and] at e1
    obtain ⟨rfl, rfl⟩ := e1
    refine ⟨h1, h.1, fun j u hu => ⟨g, rfl, hb, (Array.getElem?_eq_some_iff.1 hh).1, ?_⟩⟩
    have hlt := (List.getElem?_eq_some_iff.1 hu).1
    have hc := congrArg (fun l => l[j]?) h4
    rw [h.1] at hlt
    simp only [hu, List.getElem?_take_of_lt hlt] at hc
    simp [World.cell?, hh]
    simpa using hc

theorem own_slice {w : World} {base : Nat} {e : TypeId} {size : Nat} {v : Value} {n : Nat} {xs : List Value} (h : w.ownsRow base e size v n xs) : ∃ a cap, v = .slice a n cap := by
  rcases h.2 with ⟨rfl, rfl⟩ | ⟨g, cap, cur, rfl, _⟩
  · exact ⟨_, _, rfl⟩
  · exact ⟨_, _, rfl⟩

theorem own_block_lt {w : World} {base : Nat} {e : TypeId} {size : Nat} {v : Value} {n : Nat} {xs : List Value} (h : w.ownsRow base e size v n xs) : ∀ k, v.ownBlock = some k → base ≤ k ∧ k < w.heap.size := by
  intro k hk
  rcases h.2 with ⟨rfl, rfl⟩ | ⟨g, cap, cur, rfl, hb, hh, _⟩
  · cases hk
  · simp only [Value.ownBlock, Option.some.injEq] at hk
    subst hk
    exact ⟨hb, (Array.getElem?_eq_some_iff.1 hh).1⟩

theorem own_of_block {w w' : World} {base : Nat} {e : TypeId} {size : Nat} {v : Value} {n : Nat} {xs : List Value} (h : w.ownsRow base e size v n xs) (hb : ∀ k, v.ownBlock = some k → w'.heap[k]? = w.heap[k]?) : w'.ownsRow base e size v n xs := by
  refine ⟨h.1, ?_⟩
  rcases h.2 with hn | ⟨g, cap, cur, rfl, hb', hh, r⟩
  · exact .inl hn
  · exact .inr ⟨g, cap, cur, rfl, hb', (hb g rfl).trans hh, r⟩

theorem own_base {w : World} {base base' : Nat} {e : TypeId} {size : Nat} {v : Value} {n : Nat} {xs : List Value} (h : w.ownsRow base e size v n xs) (hb : ∀ k, v.ownBlock = some k → base' ≤ k) : w.ownsRow base' e size v n xs := by
  refine ⟨h.1, ?_⟩
  rcases h.2 with hn | ⟨g, cap, cur, rfl, hb', r⟩
  · exact .inl hn
  · exact .inr ⟨g, cap, cur, rfl, hb g rfl, r⟩

theorem own_new (w : World) (e : TypeId) (size : Nat) : (w.alloc (.cells #[] e)).ownsRow w.heap.size e size (.slice (some ⟨w.heap.size, 0, none⟩) 0 0) 0 [] :=
  ⟨by simp, .inr ⟨w.heap.size, 0, #[], rfl, Nat.le_refl _, heap_alloc_new w _, Nat.le_refl _, Nat.zero_le _, by simp, by simp⟩⟩

end Go.Proofs.Ytjkgjckkglfokab.Gr

/- A tree in memory of its own: what Copied makes. -/
namespace Go.Proofs.Ytjkgjckkglfokab.Gr
open Go.RowKit
set_option linter.unusedVariables false
set_option linter.unusedSimpArgs false

def AttrsR (w : World) (R : Nat → Prop) (a : Option Addr) (l : List (ByteArray × ByteArray)) : Prop :=
  ∀ i p, l[i]? = some p → ∃ b o, a = some ⟨b, o, none⟩ ∧ R b ∧ w.cell? ⟨b, o + i * 2, none⟩ = some (.string p.1) ∧ w.cell? ⟨b, o + i * 2 + 1, none⟩ = some (.string p.2)

/-- A tree lies in memory, in blocks of which R holds. -/
def TreeR (w : World) (R : Nat → Prop) : (n : Nat) → Array Value → T n → Prop
  | 0, _, t => False
  | n + 1, v, t => ∃ (a : Option Addr) (ac : Nat) (ka : Option Addr) (kc : Nat), v = tv t.kind t.name a t.attrs.length ac t.text ka t.kids.length kc ∧
      t.attrs.length ≤ maxA ∧ t.kids.length ≤ maxK ∧ t.attrs.length ≤ ac ∧ t.kids.length ≤ kc ∧ AttrsR w R a t.attrs ∧
      ∀ i k, t.kids[i]? = some k → ∃ (b o : Nat) (u : Array Value), ka = some ⟨b, o, none⟩ ∧ R b ∧ u.size = 5 ∧ (∀ j, j < 5 → w.cell? ⟨b, o + i * 5 + j, none⟩ = u[j]?) ∧ TreeR w R n u k

theorem AttrsR.to {w w' : World} {R R' : Nat → Prop} {a : Option Addr} {l : List (ByteArray × ByteArray)} (h : AttrsR w R a l) (hR : ∀ b, R b → R' b) (hc : ∀ b o, R b → w'.cell? ⟨b, o, none⟩ = w.cell? ⟨b, o, none⟩) : AttrsR w' R' a l := by
  intro i p hp
  obtain ⟨b, o, h1, h2, h4, h5⟩ := h i p hp
  exact ⟨b, o, h1, hR _ h2, (hc _ _ h2).trans h4, (hc _ _ h2).trans h5⟩

theorem TreeR.to {w w' : World} {R R' : Nat → Prop} (hR : ∀ b, R b → R' b) (hc : ∀ b o, R b → w'.cell? ⟨b, o, none⟩ = w.cell? ⟨b, o, none⟩) : ∀ {n : Nat} {v : Array Value} {t : T n}, TreeR w R n v t → TreeR w' R' n v t
  | 0, _, _, h => h.elim
  | n + 1, v, t, h => by
    obtain ⟨a, ac, ka, kc, h1, h2, h3, h4, h5, h6, h7⟩ := h
    refine ⟨a, ac, ka, kc, h1, h2, h3, h4, h5, h6.to hR hc, fun i k hk => ?_⟩
    obtain ⟨b, o, u, g1, g2, g4, g5, g6⟩ := h7 i k hk
    exact ⟨b, o, u, g1, hR _ g2, g4, fun j hj => (hc _ _ g2).trans (g5 j hj), TreeR.to hR hc g6⟩

theorem AttrsAt.toR {w : World} {lo hi : Nat} {a : Option Addr} {l : List (ByteArray × ByteArray)} (h : AttrsAt w lo hi a l) : AttrsR w (fun b => lo ≤ b ∧ b < hi) a l := by
  intro i p hp
  obtain ⟨b, o, h1, h2, h3, h4, h5⟩ := h i p hp
  exact ⟨b, o, h1, ⟨h2, h3⟩, h4, h5⟩
theorem TreeAt.toR {w : World} {lo hi : Nat} : ∀ {n : Nat} {v : Array Value} {t : T n}, TreeAt w lo hi n v t → TreeR w (fun b => lo ≤ b ∧ b < hi) n v t
  | 0, _, _, h => h.elim
  | n + 1, v, t, h => by
    obtain ⟨a, ac, ka, kc, h1, h2, h3, h4, h5, h6, h7⟩ := h
    refine ⟨a, ac, ka, kc, h1, h2, h3, h4, h5, h6.toR, fun i k hk => ?_⟩
    obtain ⟨b, o, u, g1, g2, g3, g4, g5, g6⟩ := h7 i k hk
    exact ⟨b, o, u, g1, ⟨g2, g3⟩, g4, g5, TreeAt.toR g6⟩
theorem TreeR.form {w : World} {R : Nat → Prop} : ∀ {n : Nat} {v : Array Value} {t : T n}, TreeR w R n v t → ∃ k nm a al ac tx ka kl kc, v = #[.int .i64 k, .string nm, .slice a al ac, .string tx, .slice ka kl kc]
  | 0, _, _, h => h.elim
  | n + 1, v, t, h => by
    obtain ⟨a, ac, ka, kc, h1, _⟩ := h
    exact ⟨_, _, _, _, _, _, _, _, _, h1⟩

/-- The cells of attributes, one behind the other. -/
def attrCells : List (ByteArray × ByteArray) → List Value
  | [] => []
  | p :: r => .string p.1 :: .string p.2 :: attrCells r

theorem attrCells_length : ∀ l, (attrCells l).length = l.length * 2
  | [] => rfl
  | p :: r => by simp [attrCells, attrCells_length r]; omega
theorem attrCells_one : ∀ l, ∀ u ∈ attrCells l, u.oneCell' = true
  | [], u, h => by simp [attrCells] at h
  | p :: r, u, h => by
    simp only [attrCells, List.mem_cons] at h
    rcases h with rfl | rfl | h
    · rfl
    · rfl
    · exact attrCells_one r u h
theorem attrCells_get : ∀ (l : List (ByteArray × ByteArray)) (i : Nat) (p : ByteArray × ByteArray), l[i]? = some p → (attrCells l)[i * 2]? = some (.string p.1) ∧ (attrCells l)[i * 2 + 1]? = some (.string p.2)
  | [], i, p, h => by simp at h
  | q :: r, 0, p, h => by
    simp at h
    subst h
    exact ⟨rfl, rfl⟩
  | q :: r, i + 1, p, h => by
    have := attrCells_get r i p (by simpa using h)
    rw [show (i + 1) * 2 = i * 2 + 2 from by omega]
    simpa [attrCells] using this

theorem addr_plus (b o j : Nat) : (⟨b, o, none⟩ : Addr).add j = ⟨b, o + j, none⟩ := by unfold Addr.add; split <;> simp_all

/-- Attributes in memory are what an append of them takes. -/
theorem AttrsAt.news {w : World} {lo hi : Nat} {a : Option Addr} {l : List (ByteArray × ByteArray)} (h : AttrsAt w lo hi a l) : ∀ j u, (attrCells l)[j]? = some u → ∃ ad, a = some ad ∧ w.cell? (ad.add j) = some u := by
  intro j u hu
  have hlt := (List.getElem?_eq_some_iff.1 hu).1
  rw [attrCells_length] at hlt
  obtain ⟨p, hp⟩ : ∃ p, l[j / 2]? = some p := ⟨_, List.getElem?_eq_getElem (by omega)⟩
  obtain ⟨b, o, rfl, _, _, h1, h2⟩ := h _ p hp
  obtain ⟨g1, g2⟩ := attrCells_get l _ p hp
  refine ⟨_, rfl, ?_⟩
  rw [addr_plus]
  rcases Nat.mod_two_eq_zero_or_one j with e | e
  · have ej : j / 2 * 2 = j := by omega
    rw [ej] at g1 h1
    rw [hu] at g1
    rw [h1, Option.some.inj g1]
  · have ej : j / 2 * 2 + 1 = j := by omega
    rw [ej] at g2
    rw [Nat.add_assoc, ej] at h2
    rw [hu] at g2
    rw [h2, Option.some.inj g2]

/-- A row of attributes' cells is attributes in memory. -/
theorem attrs_row {w : World} {base : Nat} {e : TypeId} {a : Option Addr} {n cap : Nat} {l : List (ByteArray × ByteArray)} {xs : List Value} (h : w.ownsRow base e 2 (.slice a n cap) n xs) (hx : xs = attrCells l) : AttrsR w (fun b => (Value.slice a n cap).ownBlock = some b ∧ base ≤ b ∧ b < w.heap.size) a l ∧ n = l.length ∧ n ≤ cap := by
  subst hx
  obtain ⟨hc, hl, hcell⟩ := row_cell h
  rw [attrCells_length] at hl
  refine ⟨fun i p hp => ?_, by omega, hc⟩
  obtain ⟨g1, g2⟩ := attrCells_get l i p hp
  obtain ⟨g, rfl, hb, hlt, hc1⟩ := hcell _ _ g1
  obtain ⟨g', e', _, _, hc2⟩ := hcell _ _ g2
  cases e'
  exact ⟨g, 0, rfl, ⟨rfl, hb, hlt⟩, by simpa using hc1, by simpa using hc2⟩

/-- Copies, one behind the other, in a row: child by child. -/
def CopiesAt (w : World) (R : Nat → Prop) (n : Nat) (xs : List Value) (L : List (T n)) : Prop :=
  xs.length = L.length * 5 ∧ (∀ u ∈ xs, u.oneCell' = true) ∧ ∀ i k, L[i]? = some k → ∃ u : Array Value, u.size = 5 ∧ (∀ j, j < 5 → xs[i * 5 + j]? = u[j]?) ∧ TreeR w R n u k

theorem CopiesAt.nil (w : World) (R : Nat → Prop) (n : Nat) : CopiesAt w R n [] [] := ⟨rfl, fun _ h => by simp at h, fun i k h => by simp at h⟩
theorem CopiesAt.to {w w' : World} {R R' : Nat → Prop} {n : Nat} {xs : List Value} {L : List (T n)} (h : CopiesAt w R n xs L) (hR : ∀ b, R b → R' b) (hc : ∀ b o, R b → w'.cell? ⟨b, o, none⟩ = w.cell? ⟨b, o, none⟩) : CopiesAt w' R' n xs L :=
  ⟨h.1, h.2.1, fun i k hk => by
    obtain ⟨u, h1, h2, h3⟩ := h.2.2 i k hk
    exact ⟨u, h1, h2, h3.to hR hc⟩⟩
theorem CopiesAt.snoc {w : World} {R : Nat → Prop} {n : Nat} {xs : List Value} {L : List (T n)} (h : CopiesAt w R n xs L) {u : Array Value} {k : T n} (hu : TreeR w R n u k) : CopiesAt w R n (xs ++ u.toList) (L ++ [k]) := by
  obtain ⟨kk, nm, a, al, ac, tx, ka, kl, kc, rfl⟩ := hu.form
  refine ⟨by simp [h.1]; omega, fun x hx => ?_, fun i q hq => ?_⟩
  · rw [List.mem_append] at hx
    rcases hx with hx | hx
    · exact h.2.1 x hx
    · simp only [List.mem_cons, List.not_mem_nil, or_false] at hx
      rcases hx with rfl | rfl | rfl | rfl | rfl <;> rfl
  · have hl := h.1
    rcases Nat.lt_or_ge i L.length with hi | hi
    · rw [List.getElem?_append_left hi] at hq
      obtain ⟨u, h1, h2, h3⟩ := h.2.2 i q hq
      refine ⟨u, h1, fun j hj => ?_, h3⟩
      rw [List.getElem?_append_left (by omega)]
      exact h2 j hj
    · have hi' : i = L.length := by
        have := (List.getElem?_eq_some_iff.1 hq).1
        simp at this
        omega
      subst hi'
      simp at hq
      subst hq
      refine ⟨_, rfl, fun j hj => ?_, hu⟩
      rw [List.getElem?_append_right (by omega), hl]
      simp

theorem news_new (w : World) (cs : Array Value) (T : TypeId) : ∀ j u, cs.toList[j]? = some u → ∃ ad, some (⟨w.heap.size, 0, none⟩ : Addr) = some ad ∧ (w.alloc (.cells cs T)).cell? (ad.add j) = some u := by
  intro j u hu
  refine ⟨_, rfl, ?_⟩
  rw [addr_plus, Nat.zero_add, (isCells_new w cs T).cell]
  simpa using hu
/-- Under way. -/
structure CopSt (w wr : World) (n : Nat) (t : T (n + 1)) (a1 : Option Addr) (cap1 : Nat) (ka : Option Addr) (kc : Nat) (i : Nat) (la : Option Addr) (lcap : Nat) (xs : List Value) : Prop where
  box : IsCells wr w.heap.size #[.int .i64 t.kind, .string t.name, .slice a1 t.attrs.length cap1, .string t.text, .slice ka t.kids.length kc]
  res : IsCells wr (w.heap.size + 1) #[.int .i64 0, .string ⟨#[]⟩, .slice none 0 0, .string ⟨#[]⟩, .slice none 0 0]
  attrs : AttrsR wr (fun b => w.heap.size + 2 ≤ b ∧ b < wr.heap.size ∧ (Value.slice la i lcap).ownBlock ≠ some b) a1 t.attrs
  own : wr.ownsRow (w.heap.size + 2) 48 5 (.slice la i lcap) i xs
  kids : CopiesAt wr (fun b => w.heap.size + 2 ≤ b ∧ b < wr.heap.size ∧ (Value.slice la i lcap).ownBlock ≠ some b) n xs (t.kids.take i)
  bel : Below w.heap.size w wr

theorem take_more {α : Type} {l : List α} {i : Nat} {x : α} (h : l[i]? = some x) : l.take (i + 1) = l.take i ++ [x] := by rw [List.take_add_one, h]; rfl

/-- One child more. -/
theorem CopSt.step {w wr w2 w3 : World} {n : Nat} {t : T (n + 1)} {a1 : Option Addr} {cap1 : Nat} {ka : Option Addr} {kc i : Nat} {la : Option Addr} {lcap : Nat} {xs : List Value} (h : CopSt w wr n t a1 cap1 ka kc i la lcap xs) {k : T n} (hk : t.kids[i]? = some k)
    {u : Array Value} (hu : TreeAt w2 wr.heap.size w2.heap.size n u k) (hb : Below wr.heap.size wr w2) {o : Obj} {la' : Option Addr} {lcap' : Nat} (hown : w3.ownsRow (w.heap.size + 2) 48 5 (.slice la' (i + 1) lcap') (i + 1) (xs ++ u.toList))
    (hg : (w2.alloc o).grownBy w3 (Value.slice la i lcap).ownBlock) (hat : (Value.slice la' (i + 1) lcap').ownBlock = (Value.slice la i lcap).ownBlock ∨ (Value.slice la' (i + 1) lcap').ownBlock = some (w2.heap.size + 1)) :
    CopSt w w3 n t a1 cap1 ka kc (i + 1) la' lcap' (xs ++ u.toList) := by
  have hs := hb.size
  have hs3 : w2.heap.size + 1 ≤ w3.heap.size := by have := hg.size; simpa using this
  have hbl := h.bel.size
  have hox := own_block_lt h.own
  have hbx := h.box.lt
  have hrx := h.res.lt
  have far : ∀ b, b < w2.heap.size → (Value.slice la i lcap).ownBlock ≠ some b → w3.heap[b]? = w2.heap[b]? := fun b hb1 hb2 =>
    (hg.block b (by simp; omega) (fun e => hb2 e.symm)).trans (Below.heap_alloc _ _ _ hb1)
  have far2 : ∀ b, b < wr.heap.size → (Value.slice la i lcap).ownBlock ≠ some b → w3.heap[b]? = wr.heap[b]? := fun b hb1 hb2 => (far b (by omega) hb2).trans (hb.block b hb1)
  have hnew : ∀ b, b < w2.heap.size → (Value.slice la i lcap).ownBlock ≠ some b → (Value.slice la' (i + 1) lcap').ownBlock ≠ some b := fun b h1 h2 e => by
    rcases hat with hat | hat
    · rw [hat] at e; exact h2 e
    · rw [hat] at e; simp only [Option.some.injEq] at e; omega
  refine ⟨h.box.of_block (far2 _ hbx (fun e => by have := hox _ e; omega)), h.res.of_block (far2 _ hrx (fun e => by have := hox _ e; omega)), h.attrs.to (fun b hb' => ⟨hb'.1, by omega, hnew b (by omega) hb'.2.2⟩) (fun b o hb' => World.cell?_of_block (w := wr) (a := ⟨b, o, none⟩) (far2 b hb'.2.1 hb'.2.2)), hown, ?_, ?_⟩
  · rw [take_more hk]
    refine CopiesAt.snoc (h.kids.to (fun b hb' => ⟨hb'.1, by omega, hnew b (by omega) hb'.2.2⟩) (fun b o hb' => World.cell?_of_block (w := wr) (a := ⟨b, o, none⟩) (far2 b hb'.2.1 hb'.2.2))) ?_
    have hne : ∀ b, wr.heap.size ≤ b → (Value.slice la i lcap).ownBlock ≠ some b := fun b h1 e => by have := hox _ e; omega
    exact hu.toR.to (fun b hb' => ⟨by omega, by omega, hnew b hb'.2 (hne b hb'.1)⟩) (fun b o hb' => World.cell?_of_block (w := w2) (a := ⟨b, o, none⟩) (far b hb'.2 (hne b hb'.1)))
  · exact (h.bel.trans (hb.mono hbl)).trans ⟨hg.os, hg.tape, hg.output, by omega, fun k hk => far k (by omega) (fun e => by have := hox _ e; omega)⟩

theorem CopSt.start {w w1 : World} {n : Nat} {t : T (n + 1)} {a : Option Addr} {ac : Nat} {a1 : Option Addr} {cap1 : Nat} {ka : Option Addr} {kc : Nat} (hbx : IsCells w1 w.heap.size #[.int .i64 t.kind, .string t.name, .slice a t.attrs.length ac, .string t.text, .slice ka t.kids.length kc])
    (hrs : IsCells w1 (w.heap.size + 1) #[.int .i64 0, .string ⟨#[]⟩, .slice none 0 0, .string ⟨#[]⟩, .slice none 0 0]) (hat : AttrsR w1 (fun b => w.heap.size + 2 ≤ b ∧ b < w1.heap.size) a1 t.attrs) (hb : Below w.heap.size w w1) :
    CopSt w ((w1.setCell ⟨w.heap.size, 2, none⟩ (.slice a1 t.attrs.length cap1)).alloc (.cells #[] 48)) n t a1 cap1 ka kc 0 (some ⟨w1.heap.size, 0, none⟩) 0 [] := by
  have hs : (w1.setCell ⟨w.heap.size, 2, none⟩ (.slice a1 t.attrs.length cap1)).heap.size = w1.heap.size := by simp [World.setCell]
  have hrl := hrs.lt
  have cellsame : ∀ b o, b < w1.heap.size → b ≠ w.heap.size → ((w1.setCell ⟨w.heap.size, 2, none⟩ (.slice a1 t.attrs.length cap1)).alloc (.cells #[] 48)).cell? ⟨b, o, none⟩ = w1.cell? ⟨b, o, none⟩ := fun b o h1 h2 =>
    World.cell?_of_block (w := w1) (a := ⟨b, o, none⟩) ((Below.heap_alloc _ _ _ (by rw [hs]; exact h1)).trans (Below.heap_setCell _ _ _ _ h2))
  refine ⟨(hbx.set 2 _).alloc _, (hrs.other (by simp) _).alloc _, hat.to (fun b hb' => ⟨hb'.1, by simp [World.setCell]; omega, by simp [Value.ownBlock]; omega⟩) (fun b o hb' => cellsame b o hb'.2 (by omega)), ?_, CopiesAt.nil _ _ _, ?_⟩
  · have := own_new (w1.setCell ⟨w.heap.size, 2, none⟩ (.slice a1 t.attrs.length cap1)) 48 5
    rw [hs] at this
    exact own_base this (fun k hk => by simp only [Value.ownBlock, Option.some.injEq] at hk; omega)
  · exact (hb.setCell (p := ⟨w.heap.size, 2, none⟩) (Nat.le_refl _) _).alloc (by rw [hs]; exact hb.size) _

end Go.Proofs.Ytjkgjckkglfokab.Gr

/- Documents as lists of slots, in plain, and how they lie in memory. -/
namespace Go.Proofs.Ytjkgjckkglfokab.Gr
open Go.RowKit
set_option linter.unusedVariables false
set_option linter.unusedSimpArgs false

/-- A slot. -/
structure Sl where
  gen : Nat
  live : Bool
  kind : Int
  name : ByteArray
  attrs : List (ByteArray × ByteArray)
  text : ByteArray
  parent : Nat
  kids : List Nat

/-- A document. -/
structure Dc where
  S : List Sl
  roots : List Nat

def hnd (i g : Nat) : Nat := g * 4294967296 + (i + 1)

/-- Where a handle's slot is, if it is of a live node. -/
def atI (S : List Sl) (h : Nat) : Option Nat :=
  if h % 4294967296 = 0 then none else
    match S[h % 4294967296 - 1]? with
    | none => none
    | some s => if s.live = true ∧ s.gen = h / 4294967296 then some (h % 4294967296 - 1) else none

/-- A handle's slot. -/
def sl (D : Dc) (h : Nat) : Option Sl := (atI D.S h).bind fun i => D.S[i]?

theorem atI_some {S : List Sl} {h i : Nat} (e : atI S h = some i) : ∃ s, S[i]? = some s ∧ s.live = true ∧ s.gen = h / 4294967296 ∧ i = h % 4294967296 - 1 ∧ h % 4294967296 ≠ 0 ∧ h = hnd i s.gen := by
  unfold atI at e
  split at e
  · cases e
  · rename_i h0
    split at e
    · cases e
    · rename_i s hs
      split at e
      · rename_i hl
        cases e
        refine ⟨s, hs, hl.1, hl.2, rfl, h0, ?_⟩
        unfold hnd
        omega
      · cases e

theorem atI_hnd {S : List Sl} {i : Nat} {s : Sl} (h : S[i]? = some s) (hl : s.live = true) (hi : i < 4294967295) : atI S (hnd i s.gen) = some i := by
  have h1 : hnd i s.gen % 4294967296 = i + 1 := by unfold hnd; omega
  have h2 : hnd i s.gen / 4294967296 = s.gen := by unfold hnd; omega
  unfold atI
  rw [h1, h2, if_neg (by omega), show i + 1 - 1 = i from rfl, h]
  simp [hl]

theorem sl_some {D : Dc} {h : Nat} {s : Sl} (e : sl D h = some s) : ∃ i, atI D.S h = some i ∧ D.S[i]? = some s := by
  unfold sl at e
  exact Option.bind_eq_some_iff.1 e

theorem atI_zero (S : List Sl) : atI S 0 = none := by simp [atI]

/-- A list of handles lies in memory. -/
def HandsAt (w : World) (R : Nat → Prop) (a : Option Addr) (l : List Nat) : Prop :=
  ∀ (i h : Nat), l[i]? = some h → ∃ b o, a = some ⟨b, o, none⟩ ∧ R b ∧ w.cell? ⟨b, o + i, none⟩ = some (.int .u64 (h : Int))

/-- A slot lies at a place. -/
def SlotAt (w : World) (R : Nat → Prop) (b o : Nat) (s : Sl) : Prop :=
  ∃ (aa : Option Addr) (ac : Nat) (ka : Option Addr) (kc : Nat),
    w.cell? ⟨b, o, none⟩ = some (.int .u32 (s.gen : Int)) ∧ w.cell? ⟨b, o + 1, none⟩ = some (.bool s.live) ∧ w.cell? ⟨b, o + 2, none⟩ = some (.int .i64 s.kind) ∧ w.cell? ⟨b, o + 3, none⟩ = some (.string s.name) ∧
    w.cell? ⟨b, o + 4, none⟩ = some (.slice aa s.attrs.length ac) ∧ w.cell? ⟨b, o + 5, none⟩ = some (.string s.text) ∧ w.cell? ⟨b, o + 6, none⟩ = some (.int .u64 (s.parent : Int)) ∧ w.cell? ⟨b, o + 7, none⟩ = some (.slice ka s.kids.length kc) ∧
    s.attrs.length ≤ ac ∧ s.kids.length ≤ kc ∧ AttrsR w R aa s.attrs ∧ HandsAt w R ka s.kids

def SlotsAt (w : World) (R : Nat → Prop) (a : Option Addr) (S : List Sl) : Prop :=
  ∀ i s, S[i]? = some s → ∃ b o, a = some ⟨b, o, none⟩ ∧ R b ∧ SlotAt w R b (o + i * 8) s

/-- What can be read of a document: its block's first two cells, the slots, the roots. -/
structure View (w : World) (R : Nat → Prop) (db : Nat) (D : Dc) : Prop where
  docs : R db
  lt : ∀ b, R b → b < w.heap.size
  head : ∃ a cap, w.cell? ⟨db, 0, none⟩ = some (.slice a D.S.length cap) ∧ D.S.length ≤ cap ∧ SlotsAt w R a D.S
  roots : ∃ a cap, w.cell? ⟨db, 1, none⟩ = some (.slice a D.roots.length cap) ∧ D.roots.length ≤ cap ∧ HandsAt w R a D.roots

theorem HandsAt.to {w w' : World} {R R' : Nat → Prop} {a : Option Addr} {l : List Nat} (h : HandsAt w R a l) (hR : ∀ b, R b → R' b) (hc : ∀ b o, R b → w'.cell? ⟨b, o, none⟩ = w.cell? ⟨b, o, none⟩) : HandsAt w' R' a l := by
  intro i x hx
  obtain ⟨b, o, h1, h2, h3⟩ := h i x hx
  exact ⟨b, o, h1, hR _ h2, (hc _ _ h2).trans h3⟩
theorem SlotAt.to {w w' : World} {R R' : Nat → Prop} {b o : Nat} {s : Sl} (h : SlotAt w R b o s) (hb : R b) (hR : ∀ b, R b → R' b) (hc : ∀ b o, R b → w'.cell? ⟨b, o, none⟩ = w.cell? ⟨b, o, none⟩) : SlotAt w' R' b o s := by
  obtain ⟨aa, ac, ka, kc, c0, c1, c2, c3, c4, c5, c6, c7, l1, l2, h1, h2⟩ := h
  exact ⟨aa, ac, ka, kc, (hc _ _ hb).trans c0, (hc _ _ hb).trans c1, (hc _ _ hb).trans c2, (hc _ _ hb).trans c3, (hc _ _ hb).trans c4, (hc _ _ hb).trans c5, (hc _ _ hb).trans c6, (hc _ _ hb).trans c7, l1, l2, h1.to hR hc, h2.to hR hc⟩
theorem SlotsAt.to {w w' : World} {R R' : Nat → Prop} {a : Option Addr} {S : List Sl} (h : SlotsAt w R a S) (hR : ∀ b, R b → R' b) (hc : ∀ b o, R b → w'.cell? ⟨b, o, none⟩ = w.cell? ⟨b, o, none⟩) : SlotsAt w' R' a S := by
  intro i s hs
  obtain ⟨b, o, h1, h2, h3⟩ := h i s hs
  exact ⟨b, o, h1, hR _ h2, h3.to h2 hR hc⟩
theorem View.to {w w' : World} {R R' : Nat → Prop} {db : Nat} {D : Dc} (h : View w R db D) (hR : ∀ b, R b → R' b) (hl : ∀ b, R' b → b < w'.heap.size) (hc : ∀ b o, R b → w'.cell? ⟨b, o, none⟩ = w.cell? ⟨b, o, none⟩) : View w' R' db D := by
  obtain ⟨a, cap, h1, h2, h3⟩ := h.head
  obtain ⟨a', cap', g1, g2, g3⟩ := h.roots
  exact ⟨hR _ h.docs, hl, ⟨a, cap, (hc _ _ h.docs).trans h1, h2, h3.to hR hc⟩, ⟨a', cap', (hc _ _ h.docs).trans g1, g2, g3.to hR hc⟩⟩
theorem View.below {w w' : World} {R : Nat → Prop} {db : Nat} {D : Dc} (h : View w R db D) (hb : Below w.heap.size w w') : View w' R db D :=
  h.to (fun _ h => h) (fun b hb' => Nat.lt_of_lt_of_le (h.lt b hb') hb.size) (fun b o hb' => hb.cell (p := ⟨b, o, none⟩) (h.lt b hb'))
theorem View.turn {w w' : World} {R A : Nat → Prop} {db : Nat} {D : Dc} (h : View w R db D) (ht : Turn A w w') (hA : ∀ b, R b → ¬ A b) : View w' R db D :=
  h.to (fun _ h => h) (fun b hb' => Nat.lt_of_lt_of_le (h.lt b hb') ht.size) (fun b o hb' => World.cell?_of_block (w := w) (a := ⟨b, o, none⟩) (ht.block b (h.lt b hb') (hA b hb')))

/-- A slot's cells, as a walk reads them. -/
theorem View.slot {w : World} {R : Nat → Prop} {db : Nat} {D : Dc} (h : View w R db D) {i : Nat} {s : Sl} (hs : D.S[i]? = some s) :
    ∃ b o cap aa ac ka kc, w.cell? ⟨db, 0, none⟩ = some (.slice (some ⟨b, o, none⟩) D.S.length cap) ∧ D.S.length ≤ cap ∧ R b ∧ w.cell? ⟨b, o + i * 8, none⟩ = some (.int .u32 (s.gen : Int)) ∧ w.cell? ⟨b, o + i * 8 + 1, none⟩ = some (.bool s.live) ∧ w.cell? ⟨b, o + i * 8 + 2, none⟩ = some (.int .i64 s.kind) ∧ w.cell? ⟨b, o + i * 8 + 3, none⟩ = some (.string s.name) ∧
    w.cell? ⟨b, o + i * 8 + 4, none⟩ = some (.slice aa s.attrs.length ac) ∧ w.cell? ⟨b, o + i * 8 + 5, none⟩ = some (.string s.text) ∧ w.cell? ⟨b, o + i * 8 + 6, none⟩ = some (.int .u64 (s.parent : Int)) ∧ w.cell? ⟨b, o + i * 8 + 7, none⟩ = some (.slice ka s.kids.length kc) ∧
    s.attrs.length ≤ ac ∧ s.kids.length ≤ kc ∧ AttrsR w R aa s.attrs ∧ HandsAt w R ka s.kids := by
  obtain ⟨a, cap, h1, h2, h3⟩ := h.head
  obtain ⟨b, o, rfl, hb, aa, ac, ka, kc, c⟩ := h3 i s hs
  exact ⟨b, o, cap, aa, ac, ka, kc, h1, h2, hb, c⟩

end Go.Proofs.Ytjkgjckkglfokab.Gr

/- A handle's slot: the program's find. -/
namespace Go.Proofs.Ytjkgjckkglfokab.Gr
open Go.RowKit
set_option linter.unusedVariables false
set_option linter.unusedSimpArgs false
attribute [local go_sem] Bel.cell Bel.fz

def placeI (h len : Nat) : Int := if len + 1 ≤ h % 4294967296 then -1 else ((h % 4294967296 : Nat) : Int) - 1

set_option maxRecDepth 100000 in
set_option maxHeartbeats 400000 in
theorem place_any (w : World) (h len : Nat) (hh : h < 18446744073709551616) (hl : len ≤ 4096) : Calls Try.prog 59 #[.int .u64 (h : Int), .int .i64 (len : Int)] w fun e w' => e = .returned (.int .i64 (placeI h len)) ∧ w' = w := by
  go_enter Try.func59, Try.ntmps59
  go_wp2
  all_goals go_ret
  all_goals refine ⟨congrArg _ (v_int ?_), rfl⟩
  · unfold placeI
    rw [if_pos (by omega)]
  · unfold placeI
    rw [if_neg (by omega)]
    omega

theorem beq_nat (g m : Nat) : ((g : Int) == (m : Int)) = decide (g = m) := by
  rw [Bool.eq_iff_iff]
  simp
  omega

set_option maxRecDepth 100000 in
set_option maxHeartbeats 400000 in
theorem isOf_any (w : World) (g : Nat) (lv : Bool) (k : Int) (nm : ByteArray) (av : Value) (tx : ByteArray) (p : Nat) (kv : Value) (h : Nat) (hh : h < 18446744073709551616) (hg : g < 4294967296) :
    Calls Try.prog 60 #[.agg #[.int .u32 (g : Int), .bool lv, .int .i64 k, .string nm, av, .string tx, .int .u64 (p : Int), kv], .int .u64 (h : Int)] w fun e w' => e = .returned (.bool (lv && decide (g = h / 4294967296))) ∧ Below w.heap.size w w' := by
  cases lv
  · go_enter Try.func60, Try.ntmps60
    go_wp2
    go_ret
    exact ⟨rfl, below_new' w _⟩
  · go_enter Try.func60, Try.ntmps60
    go_wp2
    go_ret
    refine ⟨congrArg _ (v_bool ?_), below_new' w _⟩
    rw [Bool.true_and, ← beq_nat]
    simp

/-- Bounds that every document keeps. -/
structure Fits (D : Dc) : Prop where
  len : D.S.length ≤ 4096
  gen : ∀ (i : Nat) (s : Sl), D.S[i]? = some s → s.gen < 4294967296

set_option maxRecDepth 100000 in
set_option maxHeartbeats 400000 in
theorem find_out (w : World) (R : Nat → Prop) (db : Nat) (D : Dc) (h : Nat) (hv : View w R db D) (hf : D.S.length ≤ 4096) (hh : h < 18446744073709551616) (hp : placeI h D.S.length = -1) :
    Calls Try.prog 44 #[.pointer (some ⟨db, 0, none⟩), .int .u64 (h : Int)] w fun e w' => e = .returned (.pointer none) ∧ Below w.heap.size w w' := by
  obtain ⟨a, cap, h1, h2, _⟩ := hv.head
  have hpl := place_any w h D.S.length hh hf
  rw [hp] at hpl
  clear hp hv
  go_enter Try.func44, Try.ntmps44
  go_wp2_with fail
  refine hpl.mono ?_
  rintro e w' ⟨rfl, rfl⟩
  go_wp2
  go_ret
  exact ⟨rfl, Below.refl _ _⟩

set_option maxRecDepth 100000 in
set_option maxHeartbeats 1000000 in
theorem find_at (w : World) (R : Nat → Prop) (db : Nat) (D : Dc) (h : Nat) (i : Nat) (s : Sl) (hv : View w R db D) (hf : Fits D) (hh : h < 18446744073709551616) (hs : D.S[i]? = some s) (hi : h % 4294967296 = i + 1) (b o cap : Nat) (hc : w.cell? ⟨db, 0, none⟩ = some (.slice (some ⟨b, o, none⟩) D.S.length cap)) :
    Calls Try.prog 44 #[.pointer (some ⟨db, 0, none⟩), .int .u64 (h : Int)] w fun e w' => e = .returned (.pointer (if s.live = true ∧ s.gen = h / 4294967296 then some ⟨b, o + i * 8, none⟩ else none)) ∧ Below w.heap.size w w' := by
  have hlt := (List.getElem?_eq_some_iff.1 hs).1
  have hp : placeI h D.S.length = (i : Int) := by unfold placeI; rw [if_neg (by omega)]; omega
  have hpl := place_any w h D.S.length hh hf.len
  rw [hp] at hpl
  obtain ⟨b', o', cap', aa, ac, ka, kc, h1, hcl, hb, c0, c1, c2, c3, c4, c5, c6, c7, _⟩ := hv.slot hs
  rw [hc] at h1
  simp only [Option.some.injEq, Value.slice.injEq, Addr.mk.injEq, and_true, true_and] at h1
  obtain ⟨⟨rfl, rfl⟩, rfl⟩ := h1
  have hof := fun W => isOf_any W s.gen s.live s.kind s.name (.slice aa s.attrs.length ac) s.text s.parent (.slice ka s.kids.length kc) h hh (hf.gen i s hs)
  have hl : ((D.S.length : Nat) : Int) ≤ 4096 := by have := hf.len; omega
  have hbl := hv.lt b hb
  have hdl := hv.lt db hv.docs
  clear hp hv hf hs hi
  by_cases hx : s.live = true ∧ s.gen = h / 4294967296
  · rw [if_pos hx]
    have hy : (s.live && decide (s.gen = h / 4294967296)) = true := by simp [hx.1, hx.2]
    rw [hy] at hof
    clear hx hy
    go_enter Try.func44, Try.ntmps44
    go_wp2_with fail
    refine hpl.mono ?_
    rintro e w' ⟨rfl, rfl⟩
    go_wp2_with fail
    refine (hof _).mono ?_
    rintro e w2 ⟨rfl, hb2⟩
    obtain ⟨hcc, hff⟩ := bcell hb2
    have HB2 : Hid (Below w'.heap.size w' w2) := hb2
    clear hb2
    go_wp2
    go_ret
    exact ⟨rfl, HB2.out⟩
  · rw [if_neg hx]
    have hy : (s.live && decide (s.gen = h / 4294967296)) = false := by
      rw [Bool.and_eq_false_iff]
      by_cases h1 : s.live = true
      · exact .inr (by simpa using fun h2 => hx ⟨h1, h2⟩)
      · exact .inl (by simpa using h1)
    rw [hy] at hof
    clear hx hy
    go_enter Try.func44, Try.ntmps44
    go_wp2_with fail
    refine hpl.mono ?_
    rintro e w' ⟨rfl, rfl⟩
    go_wp2_with fail
    refine (hof _).mono ?_
    rintro e w2 ⟨rfl, hb2⟩
    obtain ⟨hcc, hff⟩ := bcell hb2
    have HB2 : Hid (Below w'.heap.size w' w2) := hb2
    clear hb2
    go_wp2
    go_ret
    exact ⟨rfl, HB2.out⟩

/-- No live node: nil. -/
theorem find_none (w : World) (R : Nat → Prop) (db : Nat) (D : Dc) (h : Nat) (hv : View w R db D) (hf : Fits D) (hh : h < 18446744073709551616) (ha : atI D.S h = none) :
    Calls Try.prog 44 #[.pointer (some ⟨db, 0, none⟩), .int .u64 (h : Int)] w fun e w' => e = .returned (.pointer none) ∧ Below w.heap.size w w' := by
  by_cases h0 : h % 4294967296 = 0
  · exact find_out w R db D h hv hf.len hh (by unfold placeI; rw [if_neg (by omega), h0]; rfl)
  · by_cases hl : D.S.length + 1 ≤ h % 4294967296
    · exact find_out w R db D h hv hf.len hh (by unfold placeI; rw [if_pos hl])
    · obtain ⟨s, hs⟩ : ∃ s, D.S[h % 4294967296 - 1]? = some s := ⟨_, List.getElem?_eq_getElem (by omega)⟩
      obtain ⟨b, o, cap, aa, ac, ka, kc, h1, _⟩ := hv.slot hs
      have hn : ¬ (s.live = true ∧ s.gen = h / 4294967296) := by
        intro hx
        simp [atI, h0, hs, hx] at ha
      have := find_at w R db D h _ s hv hf hh hs (by omega) b o cap h1
      rw [if_neg hn] at this
      exact this

/-- A live node: its slot's address. -/
theorem find_some (w : World) (R : Nat → Prop) (db : Nat) (D : Dc) (h i : Nat) (hv : View w R db D) (hf : Fits D) (hh : h < 18446744073709551616) (ha : atI D.S h = some i) (b o cap : Nat) (hc : w.cell? ⟨db, 0, none⟩ = some (.slice (some ⟨b, o, none⟩) D.S.length cap)) :
    Calls Try.prog 44 #[.pointer (some ⟨db, 0, none⟩), .int .u64 (h : Int)] w fun e w' => e = .returned (.pointer (some ⟨b, o + i * 8, none⟩)) ∧ Below w.heap.size w w' := by
  obtain ⟨s, hs, h1, h2, h3, h4, _⟩ := atI_some ha
  have := find_at w R db D h i s hv hf hh hs (by omega) b o cap hc
  rw [if_pos ⟨h1, h2⟩] at this
  exact this

end Go.Proofs.Ytjkgjckkglfokab.Gr

/- What every document keeps; the way from a node up to its root. -/
namespace Go.Proofs.Ytjkgjckkglfokab.Gr
open Go.RowKit
set_option linter.unusedVariables false
set_option linter.unusedSimpArgs false

def zeroSl (g : Nat) : Sl := { gen := g, live := false, kind := 0, name := ⟨#[]⟩, attrs := [], text := ⟨#[]⟩, parent := 0, kids := [] }
/-- A slot's node in plain, without its children. -/
def ndOf (s : Sl) : Nd Empty := { kind := s.kind, name := s.name, attrs := s.attrs, text := s.text, kids := [] }

/-- The children of a node; of 0 the roots. -/
def lst (D : Dc) (p : Nat) : List Nat := if p = 0 then D.roots else match sl D p with | some s => s.kids | none => []

/-- Levels: each node lies one deeper than its parent, none too deep. -/
def Lev (D : Dc) (lv : Nat → Nat) : Prop := ∀ h s, sl D h = some s → lv h ≤ 63 ∧ ((s.parent = 0 ∧ lv h = 0) ∨ ∃ p, sl D s.parent = some p ∧ lv h = lv s.parent + 1)

structure WF (D : Dc) : Prop where
  fits : Fits D
  gen1 : ∀ (i : Nat) (s : Sl), D.S[i]? = some s → 1 ≤ s.gen
  dead : ∀ (i : Nat) (s : Sl), D.S[i]? = some s → s.live = false → s = zeroSl s.gen
  own : ∀ (i : Nat) (s : Sl), D.S[i]? = some s → s.live = true → ownE (ndOf s) = 0
  used : ∀ (i : Nat) (s : Sl), D.S[i]? = some s → s.live = true → (s.kind = 2 → s.kids = [] ∧ s.name = ⟨#[]⟩ ∧ s.attrs = []) ∧ (s.kind = 1 → s.text = ⟨#[]⟩)
  lev : ∃ lv, Lev D lv
  up : ∀ h s, sl D h = some s → h ∈ lst D s.parent
  down : ∀ p, (p = 0 ∨ ∃ q, sl D p = some q) → ∀ h ∈ lst D p, ∃ s, sl D h = some s ∧ s.parent = p
  nodup : ∀ p, (lst D p).Nodup

theorem sl_zero (D : Dc) : sl D 0 = none := by simp [sl, atI_zero]
theorem sl_live {D : Dc} {h : Nat} {s : Sl} (e : sl D h = some s) : ∃ i, atI D.S h = some i ∧ D.S[i]? = some s ∧ s.live = true ∧ h = hnd i s.gen := by
  obtain ⟨i, h1, h2⟩ := sl_some e
  obtain ⟨s', g1, g2, _, _, _, g3⟩ := atI_some h1
  rw [h2] at g1
  cases g1
  exact ⟨i, h1, h2, g2, g3⟩
theorem sl_of_at {D : Dc} {h i : Nat} (e : atI D.S h = some i) : ∃ s, sl D h = some s ∧ D.S[i]? = some s := by
  obtain ⟨s, h1, _⟩ := atI_some e
  exact ⟨s, by simp [sl, e, h1], h1⟩
theorem sl_none {D : Dc} {h : Nat} (e : sl D h = none) : atI D.S h = none := by
  cases ha : atI D.S h with
  | none => rfl
  | some i =>
    obtain ⟨s, h1, _⟩ := sl_of_at ha
    rw [e] at h1
    cases h1

theorem WF.lt {D : Dc} (hw : WF D) {h : Nat} {s : Sl} (e : sl D h = some s) : h < 18446744073709551616 ∧ 0 < h ∧ ∃ i, atI D.S h = some i ∧ D.S[i]? = some s ∧ i < 4096 := by
  obtain ⟨i, h1, h2, h3, h4⟩ := sl_live e
  have hi := (List.getElem?_eq_some_iff.1 h2).1
  have hl := hw.fits.len
  have hg := hw.fits.gen i s h2
  refine ⟨?_, ?_, i, h1, h2, by omega⟩
  · rw [h4]; unfold hnd; omega
  · rw [h4]; unfold hnd; omega

theorem WF.kind {D : Dc} (hw : WF D) {h : Nat} {s : Sl} (e : sl D h = some s) : s.kind = 1 ∨ s.kind = 2 := by
  obtain ⟨i, _, h2, h3, _⟩ := sl_live e
  have h := hw.own i s h2 h3
  unfold ownE ndOf at h
  simp only at h
  by_cases k1 : s.kind = 1
  · exact .inl k1
  · rw [if_neg k1] at h
    by_cases k2 : s.kind = 2
    · exact .inr k2
    · rw [if_neg k2] at h; omega

/-- A node's parent. -/
def par (D : Dc) (h : Nat) : Nat := match sl D h with | some s => s.parent | none => 0

/-- A node, its parent, and so on. -/
def chain (D : Dc) : Nat → Nat → List Nat
  | 0, _ => []
  | k + 1, h => if h = 0 then [] else h :: chain D k (par D h)

theorem Lev.par {D : Dc} {lv : Nat → Nat} (hl : Lev D lv) {h : Nat} {s : Sl} (e : sl D h = some s) : (s.parent = 0 ∧ lv h = 0) ∨ (∃ p, sl D s.parent = some p ∧ lv h = lv s.parent + 1) := (hl h s e).2

/-- How many nodes lie from a root down to one. -/
def dep (lv : Nat → Nat) (h : Nat) : Nat := if h = 0 then 0 else lv h + 1

theorem dep_par {D : Dc} {lv : Nat → Nat} (hl : Lev D lv) {h : Nat} {s : Sl} (e : sl D h = some s) : dep lv h = dep lv s.parent + 1 ∧ (s.parent = 0 ∨ ∃ p, sl D s.parent = some p) := by
  have h0 : h ≠ 0 := by rintro rfl; rw [sl_zero] at e; cases e
  rcases hl.par e with ⟨h1, h2⟩ | ⟨p, h1, h2⟩
  · exact ⟨by simp [dep, h0, h1, h2], .inl h1⟩
  · have hp0 : s.parent ≠ 0 := by intro h3; rw [h3, sl_zero] at h1; cases h1
    exact ⟨by simp [dep, h0, hp0, h2], .inr ⟨p, h1⟩⟩

theorem dep_le {D : Dc} {lv : Nat → Nat} (hl : Lev D lv) {h : Nat} (hh : h = 0 ∨ ∃ s, sl D h = some s) : dep lv h ≤ 64 := by
  rcases hh with rfl | ⟨s, e⟩
  · simp [dep]
  · have := (hl h s e).1
    unfold dep
    split <;> omega

theorem chain_eq {D : Dc} {lv : Nat → Nat} (hl : Lev D lv) : ∀ (k : Nat) (h : Nat), (h = 0 ∨ ∃ s, sl D h = some s) → dep lv h ≤ k → chain D k h = chain D (dep lv h) h ∧ (chain D k h).length = dep lv h
  | 0, h, hh, hk => by
    have : dep lv h = 0 := by omega
    rw [this]
    exact ⟨rfl, rfl⟩
  | k + 1, h, hh, hk => by
    rcases hh with rfl | ⟨s, e⟩
    · simp [chain, dep]
    · have h0 : h ≠ 0 := by rintro rfl; rw [sl_zero] at e; cases e
      obtain ⟨h1, h2⟩ := dep_par hl e
      have hp : par D h = s.parent := by simp [par, e]
      have ih := chain_eq hl k s.parent h2 (by omega)
      have e1 : chain D (k + 1) h = h :: chain D k s.parent := by rw [chain, if_neg h0, hp]
      have e2 : chain D (dep lv s.parent + 1) h = h :: chain D (dep lv s.parent) s.parent := by rw [chain, if_neg h0, hp]
      rw [h1, e1, e2, ih.1]
      refine ⟨rfl, ?_⟩
      have := ih.2
      rw [ih.1] at this
      simp [this]

/-- All around a node, itself first. -/
def ups (D : Dc) (h : Nat) : List Nat := chain D 64 h

theorem ups_step {D : Dc} {lv : Nat → Nat} (hl : Lev D lv) {h : Nat} {s : Sl} (e : sl D h = some s) : ups D h = h :: ups D s.parent := by
  have h0 : h ≠ 0 := by rintro rfl; rw [sl_zero] at e; cases e
  obtain ⟨h1, h2⟩ := dep_par hl e
  have hp : par D h = s.parent := by simp [par, e]
  have hd := dep_le hl (.inr ⟨s, e⟩)
  unfold ups
  rw [(chain_eq hl 64 h (.inr ⟨s, e⟩) hd).1, (chain_eq hl 64 s.parent h2 (by omega)).1, h1, chain, if_neg h0, hp]
theorem ups_zero (D : Dc) : ups D 0 = [] := by simp [ups, chain]
theorem ups_length {D : Dc} {lv : Nat → Nat} (hl : Lev D lv) {h : Nat} (hh : h = 0 ∨ ∃ s, sl D h = some s) : (ups D h).length = dep lv h := (chain_eq hl 64 h hh (dep_le hl hh)).2

end Go.Proofs.Ytjkgjckkglfokab.Gr

/- The program: is a node live, what lies around it. -/
namespace Go.Proofs.Ytjkgjckkglfokab.Gr
open Go.RowKit
set_option linter.unusedVariables false
set_option linter.unusedSimpArgs false

def liveB (D : Dc) (h : Nat) : Bool := decide (h = 0) || (atI D.S h).isSome

set_option maxRecDepth 100000 in
set_option maxHeartbeats 400000 in
theorem isLive_any (w : World) (R : Nat → Prop) (db : Nat) (D : Dc) (h : Nat) (hv : View w R db D) (hf : Fits D) (hh : h < 18446744073709551616) :
    Calls Try.prog 35 #[.pointer (some ⟨db, 0, none⟩), .int .u64 (h : Int)] w fun e w' => e = .returned (.bool (liveB D h)) ∧ Below w.heap.size w w' := by
  by_cases h0 : h = 0
  · have hb : ((h : Int) == 0) = true := by simp [h0]
    have e1 : liveB D h = true := by simp [liveB, h0]
    rw [e1]
    clear e1 h0 hv
    go_enter Try.func35, Try.ntmps35
    go_wp2
    go_ret
    exact ⟨rfl, Below.refl _ _⟩
  · have hb : ((h : Int) == 0) = false := by simp; omega
    cases ha : atI D.S h with
    | none =>
      have hfi := find_none w R db D h hv hf hh ha
      have e1 : liveB D h = false := by simp [liveB, h0, ha]
      rw [e1]
      clear e1 h0 hv ha
      go_enter Try.func35, Try.ntmps35
      go_wp2_with fail
      refine hfi.mono ?_
      rintro e w' ⟨rfl, hb'⟩
      go_wp2
      go_ret
      exact ⟨rfl, hb'⟩
    | some i =>
      obtain ⟨s, hs, -⟩ := atI_some ha
      obtain ⟨b, o, cap, aa, ac, ka, kc, h1, -⟩ := hv.slot hs
      have hfi := find_some w R db D h i hv hf hh ha b o cap h1
      have e1 : liveB D h = true := by simp [liveB, ha]
      rw [e1]
      clear e1 h0 hv ha
      go_enter Try.func35, Try.ntmps35
      go_wp2_with fail
      refine hfi.mono ?_
      rintro e w' ⟨rfl, hb'⟩
      go_wp2
      go_ret
      exact ⟨rfl, hb'⟩

/-- Where a node comes to lie. -/
def arD (D : Dc) (wh : Int) (a : Nat) : Nat := if wh = 3 ∨ wh = 4 then par D a else a

set_option maxRecDepth 100000 in
set_option maxHeartbeats 400000 in
theorem around_any (w : World) (R : Nat → Prop) (db : Nat) (D : Dc) (wh : Int) (a : Nat) (hv : View w R db D) (hf : Fits D) (hh : a < 18446744073709551616) (hl : wh = 3 ∨ wh = 4 → ∃ s, sl D a = some s) :
    Calls Try.prog 36 #[.pointer (some ⟨db, 0, none⟩), .int .i64 wh, .int .u64 (a : Int)] w fun e w' => e = .returned (.int .u64 (arD D wh a : Int)) ∧ Below w.heap.size w w' := by
  by_cases h3 : wh = 3 ∨ wh = 4
  · obtain ⟨s, hs⟩ := hl h3
    obtain ⟨i, ha, hsi, -⟩ := sl_live hs
    obtain ⟨b, o, cap, aa, ac, ka, kc, h1, hcl, hb, c0, c1, c2, c3, c4, c5, c6, c7, -⟩ := hv.slot hsi
    have hfi := find_some w R db D a i hv hf hh ha b o cap h1
    have e1 : arD D wh a = s.parent := by simp [arD, h3, par, hs]
    have hbl := hv.lt b hb
    rw [e1]
    clear e1 hl hv ha hs hsi
    rcases h3 with rfl | rfl
    · go_enter Try.func36, Try.ntmps36
      go_wp2_with fail
      refine hfi.mono ?_
      rintro e w' ⟨rfl, hb'⟩
      obtain ⟨hcc, -⟩ := bcell hb'
      have HB : Hid (Below w.heap.size w w') := hb'
      clear hb'
      go_wp2
      go_ret
      exact ⟨rfl, HB.out⟩
    · go_enter Try.func36, Try.ntmps36
      go_wp2_with fail
      refine hfi.mono ?_
      rintro e w' ⟨rfl, hb'⟩
      obtain ⟨hcc, -⟩ := bcell hb'
      have HB : Hid (Below w.heap.size w w') := hb'
      clear hb'
      go_wp2
      go_ret
      exact ⟨rfl, HB.out⟩
  · have e1 : arD D wh a = a := by simp [arD, h3]
    rw [e1]
    have hb1 : (wh == 3) = false := beq_eq_false_iff_ne.2 (fun h => h3 (.inl h))
    have hb2 : (wh == 4) = false := beq_eq_false_iff_ne.2 (fun h => h3 (.inr h))
    clear e1 hl hv h3
    go_enter Try.func36, Try.ntmps36
    go_wp2
    go_ret
    exact ⟨rfl, Below.refl _ _⟩

set_option maxRecDepth 100000 in
set_option maxHeartbeats 400000 in
theorem depth_any (w : World) (R : Nat → Prop) (db : Nat) (D : Dc) (h : Nat) (hv : View w R db D) (hw : WF D) (hh : h = 0 ∨ ∃ s, sl D h = some s) :
    Calls Try.prog 52 #[.pointer (some ⟨db, 0, none⟩), .int .u64 (h : Int)] w fun e w' => e = .returned (.int .i64 ((ups D h).length : Int)) ∧ Below w.heap.size w w' := by
  obtain ⟨lv, hlv⟩ := hw.lev
  rw [ups_length hlv hh]
  have hd64 := dep_le hlv hh
  have HV : Hid (View w R db D) := hv
  have HW : Hid (WF D) := hw
  have HL : Hid (Lev D lv) := hlv
  clear hv hw hlv
  go_enter Try.func52, Try.ntmps52
  go_wp2
  go_loopw [1, 5] (fun v c wr => ∃ (x k : Nat), v = .int .u64 (x : Int) ∧ c = .int .i64 (k : Int) ∧ Hid (x = 0 ∨ ∃ s, sl D x = some s) ∧ Hid (k + dep lv x = dep lv h) ∧ k ≤ 64 ∧ Hid (Below w.heap.size w wr)) (fun v c _ => 64 - (intOf c).toNat)
  case atStart => exact ⟨h, 0, rfl, rfl, hh, Nat.zero_add _, by omega, Below.refl _ _⟩
  case round =>
    obtain ⟨x, k, rfl, rfl, hx, hk, hk64, hbw⟩ := hrel
    by_cases h0 : x = 0
    · have hb : ((x : Int) == 0) = true := by simp [h0]
      have hkk : k = dep lv h := by have := hk.out; rw [h0] at this; simpa [dep] using this
      clear h0 hk
      go_wp2
      go_ret
      exact ⟨congrArg _ (v_int (by omega)), hbw.out⟩
    · have hb : ((x : Int) == 0) = false := by simp; omega
      obtain ⟨s, hs⟩ : ∃ s, sl D x = some s := by
        rcases hx.out with h | h
        · exact absurd h h0
        · exact h
      obtain ⟨hdp, hpp⟩ := dep_par HL.out hs
      have hkk := hk.out
      have hdx := dep_le HL.out (.inr ⟨s, hs⟩)
      obtain ⟨hxl, -, i, ha, hsi, -⟩ := HW.out.lt hs
      have hv' := HV.out.below hbw.out
      obtain ⟨b, o, cap, aa, ac, ka, kc, h1, hcl, hbR, c0, c1, c2, c3, c4, c5, c6, c7, -⟩ := hv'.slot hsi
      have hfi := find_some wr R db D x i hv' HW.out.fits hxl ha b o cap h1
      have hbl := hv'.lt b hbR
      have HK : Hid (k + 1 + dep lv s.parent = dep lv h) := by show _ = _; omega
      have HP : Hid (s.parent = 0 ∨ ∃ p, sl D s.parent = some p) := hpp
      have hk63 : k + 1 ≤ 64 := by omega
      clear hdp hpp hkk hdx hv' ha hsi hs h0 hk hx c0 c1 c2 c3 c4 c5 c7 hcl
      go_wp2_with fail
      refine hfi.mono ?_
      rintro e w2 ⟨rfl, hb2⟩
      obtain ⟨hcc, -⟩ := bcell hb2
      have HB2 : Hid (Below w.heap.size w w2) := hbw.out.trans (hb2.mono hbw.out.size)
      clear hb2
      go_wp2
      go_roundw
      case rel => exact ⟨s.parent, k + 1, rfl, by go_num, HP, HK, hk63, HB2⟩
      case measure => simp [intOf]; omega

end Go.Proofs.Ytjkgjckkglfokab.Gr

/- The document: a handle's slot, its children, what lies around it. -/
namespace Go.Proofs.Ytjkgjckkglfokab.Gr
open Go.RowKit
set_option linter.unusedVariables false
set_option linter.unusedSimpArgs false
attribute [local go_sem] Bel.cell Bel.fz

theorem bits_hnd (g i : Nat) (hg : g < 4294967296) (hi : i < 4294967295) : bits .or .u64 ((g : Int) * 4294967296) ((i : Int) + 1) = (hnd i g : Int) := by
  have h := bits_or_u64_nat (g * 4294967296) (i + 1) (by omega) (by omega)
  have e1 : ((g * 4294967296 : Nat) : Int) = (g : Int) * 4294967296 := by omega
  have e2 : ((i + 1 : Nat) : Int) = (i : Int) + 1 := by omega
  rw [e1, e2] at h
  rw [h]
  have := Nat.shiftLeft_add_eq_or_of_lt (b := i + 1) (i := 32) (by omega) g
  rw [Nat.shiftLeft_eq] at this
  unfold hnd
  rw [← this]

/-- The roots, or a live node's children, as a slice. -/
theorem View.lst {w : World} {R : Nat → Prop} {db : Nat} {D : Dc} (hv : View w R db D) {p : Nat} (hp : p = 0 ∨ ∃ s, sl D p = some s) : ∃ a cap, (lst D p).length ≤ cap ∧ HandsAt w R a (lst D p) ∧
    ((p = 0 ∧ w.cell? ⟨db, 1, none⟩ = some (.slice a (lst D p).length cap)) ∨ (p ≠ 0 ∧ ∃ i b o cap', atI D.S p = some i ∧ i < D.S.length ∧ w.cell? ⟨db, 0, none⟩ = some (.slice (some ⟨b, o, none⟩) D.S.length cap') ∧ D.S.length ≤ cap' ∧ R b ∧ w.cell? ⟨b, o + i * 8 + 7, none⟩ = some (.slice a (lst D p).length cap))) := by
  rcases hp with rfl | ⟨s, hs⟩
  · obtain ⟨a, cap, h1, h2, h3⟩ := hv.roots
    exact ⟨a, cap, h2, h3, .inl ⟨rfl, h1⟩⟩
  · have h0 : p ≠ 0 := by rintro rfl; rw [sl_zero] at hs; cases hs
    obtain ⟨i, ha, hsi, _⟩ := sl_live hs
    obtain ⟨b, o, cap, aa, ac, ka, kc, h1, hcl, hbR, c0, c1, c2, c3, c4, c5, c6, c7, l1, l2, h3, h4⟩ := hv.slot hsi
    have e : Go.Proofs.Ytjkgjckkglfokab.Gr.lst D p = s.kids := by simp [Go.Proofs.Ytjkgjckkglfokab.Gr.lst, h0, hs]
    rw [e]
    exact ⟨ka, kc, l2, h4, .inr ⟨h0, i, b, o, cap, ha, (List.getElem?_eq_some_iff.1 hsi).1, h1, hcl, hbR, c7⟩⟩

end Go.Proofs.Ytjkgjckkglfokab.Gr

/- The document: lists, levels, what lies within. -/
namespace Go.Proofs.Ytjkgjckkglfokab.Gr
open Go.RowKit
set_option linter.unusedVariables false
set_option linter.unusedSimpArgs false
attribute [local go_sem] Bel.cell Bel.fz

end Go.Proofs.Ytjkgjckkglfokab.Gr
