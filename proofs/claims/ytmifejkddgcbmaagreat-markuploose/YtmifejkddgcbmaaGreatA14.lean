/- append onto a row of one's own, from a slice that may be nil: the new value written out, and where it lies. -/
import Derived.Test.YtmifejkddgcbmaaGreatA05
import Derived.Maps.AppendAt
import Derived.Deep.AppendSrc
namespace Go.Proofs.YtmifejkddgcbmaaGreat
open Go.RowKit
set_option linter.unusedVariables false
set_option linter.unusedSimpArgs false

/-- What is known of an element's type. -/
def InfoOf (P : Program) (e : TypeId) (z : Value) (size bytes : Nat) : Prop := (P.info? e).map (fun i => (i.zero, i.size, i.bytes)) = some (some z, size, bytes)

theorem InfoOf.parts {P : Program} {e : TypeId} {z : Value} {size bytes : Nat} (h : InfoOf P e z size bytes) : ∃ i, P.info? e = some i ∧ i.zero = some z ∧ i.size = size ∧ i.bytes = bytes := by
  unfold InfoOf at h
  cases hi : P.info? e with
  | none => rw [hi] at h; cases h
  | some i =>
    rw [hi] at h
    simp only [Option.map_some, Option.some.injEq, Prod.mk.injEq] at h
    exact ⟨i, rfl, h.1, h.2.1, h.2.2⟩

/-- A row of cells of one's own: a slice value (nil, or from a block's beginning on), its block from base on, its first cells. -/
abbrev Row (w : World) (base : Nat) (e : TypeId) (size : Nat) (a : Option Nat) (n cap : Nat) (xs : List Value) : Prop :=
  w.ownsRow base e size (.slice (a.map fun g => ⟨g, 0, none⟩) n cap) n xs

theorem run_app {P : Program} {t ty e : TypeId} {z : Value} {size bytes : Nat} (ht : P.underlying t = some (.slice e)) (hi : InfoOf P e z size bytes) (hzs : z.cells.size = size) (hsz : 0 < size)
    (w : World) (base : Nat) (v : Value) (n : Nat) (xs : List Value) (hown : w.ownsRow base e size v n xs) (a : Option Addr) (m c : Nat) (news : List Value) (hl : news.length = m * size)
    (hnews : ∀ j u, news[j]? = some u → ∃ ad, a = some ad ∧ w.cell? (ad.add j) = some u) (h1 : ∀ u ∈ news, u.oneCell' = true) (h63 : n + m ≤ maxLen) (hbytes : (n + m) * bytes ≤ 140737488355328) (hbase : base ≤ w.heap.size) :
    ∃ v' w', (Builtin.append_ #[t, t] ty #[v, .slice a m c]).run P w = .ok v' w' ∧ w'.ownsRow base e size v' (n + m) (xs ++ news) ∧ w.grownBy w' v.ownBlock ∧
      (v' = .slice none 0 0 ↔ v = .slice none 0 0 ∧ m = 0) ∧ (v'.ownBlock = v.ownBlock ∨ v'.ownBlock = some w.heap.size) := by
  obtain ⟨i, hi0, hz0, hz1, hz2⟩ := hi.parts
  cases a with
  | some ad =>
    exact run_append_own_at (P := P) w base t ty e i z size bytes ht hi0 hz0 hz1 hz2 hzs hsz v n xs hown ad m c news hl (fun j u hu => by
      obtain ⟨ad', h, h'⟩ := hnews j u hu
      cases h
      exact h') h1 h63 hbytes hbase
  | none =>
    have hn : news = [] := by
      cases news with
      | nil => rfl
      | cons u r =>
        obtain ⟨ad', h, _⟩ := hnews 0 u rfl
        cases h
    subst hn
    have hm : m = 0 := by
      simp only [List.length_nil] at hl
      rcases Nat.mul_eq_zero.1 hl.symm with h | h
      · exact h
      · omega
    subst hm
    refine ⟨v, w, ?_, by simpa using hown, ⟨rfl, rfl, rfl, Nat.le_refl _, fun _ _ _ => rfl⟩, by simp, .inl rfl⟩
    rcases hown.2 with ⟨rfl, rfl⟩ | ⟨g, cap, cur, rfl, _, _, hc, _⟩
    · simp [Builtin.append_, run_underlying ht, sizeOf, typeInfo, hi0, Builtin.lenOf, Builtin.firstCells]
    · have h := run_append_room_src (P := P) w t t ty e i ht hi0 g 0 n cap (.slice none 0 c) 0 [] (by rw [hz1]; exact Src.ofNil w ht c) (by omega) (by simp) (by simp)
      simpa [World.setCells] using h

/-- At the operation, for the walk. -/
theorem wpList_app {P : Program} {t e : TypeId} {z : Value} {size bytes : Nat} {w : World} {ops : Array Oper} {rest : List Oper} {o : Oper} {ac : Act} {Q : Exit → Act → World → Prop} (hgd : o.guard = none) (s x : Operand)
    (ho : o.op = .call { callee := .builtin .append, args := #[s, x], argTypes := #[t, t] }) (ht : P.underlying t = some (.slice e)) (hi : InfoOf P e z size bytes) (hzs : z.cells.size = size) (hsz : 0 < size)
    (base : Nat) (v : Value) (n : Nat) (xs : List Value) (hs : ac.eval s = v) (hown : w.ownsRow base e size v n xs) (a : Option Addr) (m c : Nat) (news : List Value) (hx : ac.eval x = .slice a m c) (hl : news.length = m * size)
    (hnews : ∀ j u, news[j]? = some u → ∃ ad, a = some ad ∧ w.cell? (ad.add j) = some u) (h1 : ∀ u ∈ news, u.oneCell' = true) (h63 : n + m ≤ maxLen) (hbytes : (n + m) * bytes ≤ 140737488355328) (hbase : base ≤ w.heap.size)
    (hK : ∀ v' w', w'.ownsRow base e size v' (n + m) (xs ++ news) → w.grownBy w' v.ownBlock → (v' = .slice none 0 0 ↔ v = .slice none 0 0 ∧ m = 0) → (v'.ownBlock = v.ownBlock ∨ v'.ownBlock = some w.heap.size) → wpList P ops Q rest (ac.put o.dst v') w') : wpList P ops Q (o :: rest) ac w := by
  refine wpList_plain hgd fun K hK' => ?_
  obtain ⟨v', w', hr, h2, h3, h4, h5⟩ := run_app (ty := o.type) ht hi hzs hsz w base v n xs hown a m c news hl hnews h1 h63 hbytes hbase
  unfold Oper.wp execOp
  simp only [ho, resolve, invoke, builtin, Sem.run_bind, Sem.run_pure, Result.andThen_ok, List.map_toArray, List.map_cons, List.map_nil, hs, hx, hr]
  exact hK' _ _ (hK v' w' h2 h3 h4 h5)

/-- What a row's first cells are, in memory. -/
theorem row_cell {w : World} {base : Nat} {e : TypeId} {size : Nat} {a : Option Addr} {n cap : Nat} {xs : List Value} (h : w.ownsRow base e size (.slice a n cap) n xs) :
    n ≤ cap ∧ xs.length = n * size ∧ ∀ j u, xs[j]? = some u → ∃ g, a = some ⟨g, 0, none⟩ ∧ base ≤ g ∧ g < w.heap.size ∧ w.cell? ⟨g, j, none⟩ = some u := by
  rcases h.2 with ⟨e1, e2⟩ | ⟨g, cap', cur, e1, hb, hh, h1, h2, h3, h4⟩
  · simp only [Value.slice.injEq] at e1
    obtain ⟨rfl, _, rfl⟩ := e1
    subst e2
    refine ⟨Nat.le_refl _, h.1, fun j u hu => ?_⟩
    have : xs = [] := List.length_eq_zero_iff.1 (by rw [h.1]; simp)
    rw [this] at hu
    simp at hu
  · simp only [Value.slice.injEq, true_and] at e1
    obtain ⟨rfl, rfl⟩ := e1
    refine ⟨h1, h.1, fun j u hu => ⟨g, rfl, hb, (Array.getElem?_eq_some_iff.1 hh).1, ?_⟩⟩
    have hlt := (List.getElem?_eq_some_iff.1 hu).1
    have hc := congrArg (fun l => l[j]?) h4
    rw [h.1] at hlt
    simp only [hu, List.getElem?_take_of_lt hlt] at hc
    simp [World.cell?, hh]
    simpa using hc

theorem own_slice {w : World} {base : Nat} {e : TypeId} {size : Nat} {v : Value} {n : Nat} {xs : List Value} (h : w.ownsRow base e size v n xs) : ∃ a cap, v = .slice a n cap := by
  rcases h.2 with ⟨rfl, rfl⟩ | ⟨g, cap, cur, rfl, _⟩
  · exact ⟨_, _, rfl⟩
  · exact ⟨_, _, rfl⟩

theorem own_block_lt {w : World} {base : Nat} {e : TypeId} {size : Nat} {v : Value} {n : Nat} {xs : List Value} (h : w.ownsRow base e size v n xs) : ∀ k, v.ownBlock = some k → base ≤ k ∧ k < w.heap.size := by
  intro k hk
  rcases h.2 with ⟨rfl, rfl⟩ | ⟨g, cap, cur, rfl, hb, hh, _⟩
  · cases hk
  · simp only [Value.ownBlock, Option.some.injEq] at hk
    subst hk
    exact ⟨hb, (Array.getElem?_eq_some_iff.1 hh).1⟩

theorem own_of_block {w w' : World} {base : Nat} {e : TypeId} {size : Nat} {v : Value} {n : Nat} {xs : List Value} (h : w.ownsRow base e size v n xs) (hb : ∀ k, v.ownBlock = some k → w'.heap[k]? = w.heap[k]?) : w'.ownsRow base e size v n xs := by
  refine ⟨h.1, ?_⟩
  rcases h.2 with hn | ⟨g, cap, cur, rfl, hb', hh, r⟩
  · exact .inl hn
  · exact .inr ⟨g, cap, cur, rfl, hb', (hb g rfl).trans hh, r⟩

theorem own_base {w : World} {base base' : Nat} {e : TypeId} {size : Nat} {v : Value} {n : Nat} {xs : List Value} (h : w.ownsRow base e size v n xs) (hb : ∀ k, v.ownBlock = some k → base' ≤ k) : w.ownsRow base' e size v n xs := by
  refine ⟨h.1, ?_⟩
  rcases h.2 with hn | ⟨g, cap, cur, rfl, hb', r⟩
  · exact .inl hn
  · exact .inr ⟨g, cap, cur, rfl, hb g rfl, r⟩

theorem own_new (w : World) (e : TypeId) (size : Nat) : (w.alloc (.cells #[] e)).ownsRow w.heap.size e size (.slice (some ⟨w.heap.size, 0, none⟩) 0 0) 0 [] :=
  ⟨by simp, .inr ⟨w.heap.size, 0, #[], rfl, Nat.le_refl _, heap_alloc_new w _, Nat.le_refl _, Nat.zero_le _, by simp, by simp⟩⟩

end Go.Proofs.YtmifejkddgcbmaaGreat

/- Trees and attributes in memory of their own. -/
namespace Go.Proofs.YtmifejkddgcbmaaGreat
open Go.RowKit
set_option linter.unusedVariables false
set_option linter.unusedSimpArgs false

def AttrsR (w : World) (R : Nat → Prop) (a : Option Addr) (l : List (ByteArray × ByteArray)) : Prop :=
  ∀ i p, l[i]? = some p → ∃ b o, a = some ⟨b, o, none⟩ ∧ R b ∧ w.cell? ⟨b, o + i * 2, none⟩ = some (.string p.1) ∧ w.cell? ⟨b, o + i * 2 + 1, none⟩ = some (.string p.2)

/-- A tree lies in memory, in blocks of which R holds. -/
def TreeR (w : World) (R : Nat → Prop) : (n : Nat) → Array Value → T n → Prop
  | 0, _, t => False
  | n + 1, v, t => ∃ (a : Option Addr) (ac : Nat) (ka : Option Addr) (kc : Nat), v = tv t.kind t.name a t.attrs.length ac t.text ka t.kids.length kc ∧
      t.attrs.length ≤ maxA ∧ t.kids.length ≤ maxK ∧ t.attrs.length ≤ ac ∧ t.kids.length ≤ kc ∧ AttrsR w R a t.attrs ∧
      ∀ i k, t.kids[i]? = some k → ∃ (b o : Nat) (u : Array Value), ka = some ⟨b, o, none⟩ ∧ R b ∧ u.size = 5 ∧ (∀ j, j < 5 → w.cell? ⟨b, o + i * 5 + j, none⟩ = u[j]?) ∧ TreeR w R n u k

theorem AttrsR.to {w w' : World} {R R' : Nat → Prop} {a : Option Addr} {l : List (ByteArray × ByteArray)} (h : AttrsR w R a l) (hR : ∀ b, R b → R' b) (hc : ∀ b o, R b → w'.cell? ⟨b, o, none⟩ = w.cell? ⟨b, o, none⟩) : AttrsR w' R' a l := by
  intro i p hp
  obtain ⟨b, o, h1, h2, h4, h5⟩ := h i p hp
  exact ⟨b, o, h1, hR _ h2, (hc _ _ h2).trans h4, (hc _ _ h2).trans h5⟩

theorem TreeR.to {w w' : World} {R R' : Nat → Prop} (hR : ∀ b, R b → R' b) (hc : ∀ b o, R b → w'.cell? ⟨b, o, none⟩ = w.cell? ⟨b, o, none⟩) : ∀ {n : Nat} {v : Array Value} {t : T n}, TreeR w R n v t → TreeR w' R' n v t
  | 0, _, _, h => h.elim
  | n + 1, v, t, h => by
    obtain ⟨a, ac, ka, kc, h1, h2, h3, h4, h5, h6, h7⟩ := h
    refine ⟨a, ac, ka, kc, h1, h2, h3, h4, h5, h6.to hR hc, fun i k hk => ?_⟩
    obtain ⟨b, o, u, g1, g2, g4, g5, g6⟩ := h7 i k hk
    exact ⟨b, o, u, g1, hR _ g2, g4, fun j hj => (hc _ _ g2).trans (g5 j hj), TreeR.to hR hc g6⟩

theorem AttrsAt.toR {w : World} {lo hi : Nat} {a : Option Addr} {l : List (ByteArray × ByteArray)} (h : AttrsAt w lo hi a l) : AttrsR w (fun b => lo ≤ b ∧ b < hi) a l := by
  intro i p hp
  obtain ⟨b, o, h1, h2, h3, h4, h5⟩ := h i p hp
  exact ⟨b, o, h1, ⟨h2, h3⟩, h4, h5⟩
theorem AttrsR.toAt {w : World} {lo hi : Nat} {a : Option Addr} {l : List (ByteArray × ByteArray)} (h : AttrsR w (fun b => lo ≤ b ∧ b < hi) a l) : AttrsAt w lo hi a l := by
  intro i p hp
  obtain ⟨b, o, h1, ⟨h2, h3⟩, h4, h5⟩ := h i p hp
  exact ⟨b, o, h1, h2, h3, h4, h5⟩
theorem TreeAt.toR {w : World} {lo hi : Nat} : ∀ {n : Nat} {v : Array Value} {t : T n}, TreeAt w lo hi n v t → TreeR w (fun b => lo ≤ b ∧ b < hi) n v t
  | 0, _, _, h => h.elim
  | n + 1, v, t, h => by
    obtain ⟨a, ac, ka, kc, h1, h2, h3, h4, h5, h6, h7⟩ := h
    refine ⟨a, ac, ka, kc, h1, h2, h3, h4, h5, h6.toR, fun i k hk => ?_⟩
    obtain ⟨b, o, u, g1, g2, g3, g4, g5, g6⟩ := h7 i k hk
    exact ⟨b, o, u, g1, ⟨g2, g3⟩, g4, g5, TreeAt.toR g6⟩
theorem TreeR.toAt {w : World} {lo hi : Nat} : ∀ {n : Nat} {v : Array Value} {t : T n}, TreeR w (fun b => lo ≤ b ∧ b < hi) n v t → TreeAt w lo hi n v t
  | 0, _, _, h => h.elim
  | n + 1, v, t, h => by
    obtain ⟨a, ac, ka, kc, h1, h2, h3, h4, h5, h6, h7⟩ := h
    refine ⟨a, ac, ka, kc, h1, h2, h3, h4, h5, h6.toAt, fun i k hk => ?_⟩
    obtain ⟨b, o, u, g1, ⟨g2, g3⟩, g4, g5, g6⟩ := h7 i k hk
    exact ⟨b, o, u, g1, g2, g3, g4, g5, TreeR.toAt g6⟩
theorem TreeR.form {w : World} {R : Nat → Prop} : ∀ {n : Nat} {v : Array Value} {t : T n}, TreeR w R n v t → ∃ k nm a al ac tx ka kl kc, v = #[.int .i64 k, .string nm, .slice a al ac, .string tx, .slice ka kl kc]
  | 0, _, _, h => h.elim
  | n + 1, v, t, h => by
    obtain ⟨a, ac, ka, kc, h1, _⟩ := h
    exact ⟨_, _, _, _, _, _, _, _, _, h1⟩

/-- The cells of attributes, one behind the other. -/
def attrCells : List (ByteArray × ByteArray) → List Value
  | [] => []
  | p :: r => .string p.1 :: .string p.2 :: attrCells r

theorem attrCells_length : ∀ l, (attrCells l).length = l.length * 2
  | [] => rfl
  | p :: r => by simp [attrCells, attrCells_length r]; omega
theorem attrCells_one : ∀ l, ∀ u ∈ attrCells l, u.oneCell' = true
  | [], u, h => by simp [attrCells] at h
  | p :: r, u, h => by
    simp only [attrCells, List.mem_cons] at h
    rcases h with rfl | rfl | h
    · rfl
    · rfl
    · exact attrCells_one r u h
theorem attrCells_get : ∀ (l : List (ByteArray × ByteArray)) (i : Nat) (p : ByteArray × ByteArray), l[i]? = some p → (attrCells l)[i * 2]? = some (.string p.1) ∧ (attrCells l)[i * 2 + 1]? = some (.string p.2)
  | [], i, p, h => by simp at h
  | q :: r, 0, p, h => by
    simp at h
    subst h
    exact ⟨rfl, rfl⟩
  | q :: r, i + 1, p, h => by
    have := attrCells_get r i p (by simpa using h)
    rw [show (i + 1) * 2 = i * 2 + 2 from by omega]
    simpa [attrCells] using this

theorem addr_plus (b o j : Nat) : (⟨b, o, none⟩ : Addr).add j = ⟨b, o + j, none⟩ := by unfold Addr.add; split <;> simp_all

/-- Attributes in memory are what an append of them takes. -/
theorem AttrsAt.news {w : World} {lo hi : Nat} {a : Option Addr} {l : List (ByteArray × ByteArray)} (h : AttrsAt w lo hi a l) : ∀ j u, (attrCells l)[j]? = some u → ∃ ad, a = some ad ∧ w.cell? (ad.add j) = some u := by
  intro j u hu
  have hlt := (List.getElem?_eq_some_iff.1 hu).1
  rw [attrCells_length] at hlt
  obtain ⟨p, hp⟩ : ∃ p, l[j / 2]? = some p := ⟨_, List.getElem?_eq_getElem (by omega)⟩
  obtain ⟨b, o, rfl, _, _, h1, h2⟩ := h _ p hp
  obtain ⟨g1, g2⟩ := attrCells_get l _ p hp
  refine ⟨_, rfl, ?_⟩
  rw [addr_plus]
  rcases Nat.mod_two_eq_zero_or_one j with e | e
  · have ej : j / 2 * 2 = j := by omega
    rw [ej] at g1 h1
    rw [hu] at g1
    rw [h1, Option.some.inj g1]
  · have ej : j / 2 * 2 + 1 = j := by omega
    rw [ej] at g2
    rw [Nat.add_assoc, ej] at h2
    rw [hu] at g2
    rw [h2, Option.some.inj g2]

/-- A row of attributes' cells is attributes in memory. -/
theorem attrs_row {w : World} {base : Nat} {e : TypeId} {a : Option Addr} {n cap : Nat} {l : List (ByteArray × ByteArray)} {xs : List Value} (h : w.ownsRow base e 2 (.slice a n cap) n xs) (hx : xs = attrCells l) : AttrsR w (fun b => (Value.slice a n cap).ownBlock = some b ∧ base ≤ b ∧ b < w.heap.size) a l ∧ n = l.length ∧ n ≤ cap := by
  subst hx
  obtain ⟨hc, hl, hcell⟩ := row_cell h
  rw [attrCells_length] at hl
  refine ⟨fun i p hp => ?_, by omega, hc⟩
  obtain ⟨g1, g2⟩ := attrCells_get l i p hp
  obtain ⟨g, rfl, hb, hlt, hc1⟩ := hcell _ _ g1
  obtain ⟨g', e', _, _, hc2⟩ := hcell _ _ g2
  cases e'
  exact ⟨g, 0, rfl, ⟨rfl, hb, hlt⟩, by simpa using hc1, by simpa using hc2⟩

theorem infoA : InfoOf Tryz.prog 55 (.agg #[.string ⟨#[]⟩, .string ⟨#[]⟩]) 2 32 := by unfold InfoOf; kernel_rfl
theorem infoT : InfoOf Tryz.prog 40 (.agg #[.int .i64 0, .string ⟨#[]⟩, .slice none 0 0, .string ⟨#[]⟩, .slice none 0 0]) 5 88 := by unfold InfoOf; kernel_rfl

/-- Copies, one behind the other, in a row: child by child. -/
def CopiesAt (w : World) (R : Nat → Prop) (n : Nat) (xs : List Value) (L : List (T n)) : Prop :=
  xs.length = L.length * 5 ∧ (∀ u ∈ xs, u.oneCell' = true) ∧ ∀ i k, L[i]? = some k → ∃ u : Array Value, u.size = 5 ∧ (∀ j, j < 5 → xs[i * 5 + j]? = u[j]?) ∧ TreeR w R n u k

theorem CopiesAt.nil (w : World) (R : Nat → Prop) (n : Nat) : CopiesAt w R n [] [] := ⟨rfl, fun _ h => by simp at h, fun i k h => by simp at h⟩
theorem CopiesAt.to {w w' : World} {R R' : Nat → Prop} {n : Nat} {xs : List Value} {L : List (T n)} (h : CopiesAt w R n xs L) (hR : ∀ b, R b → R' b) (hc : ∀ b o, R b → w'.cell? ⟨b, o, none⟩ = w.cell? ⟨b, o, none⟩) : CopiesAt w' R' n xs L :=
  ⟨h.1, h.2.1, fun i k hk => by
    obtain ⟨u, h1, h2, h3⟩ := h.2.2 i k hk
    exact ⟨u, h1, h2, h3.to hR hc⟩⟩
theorem CopiesAt.snoc {w : World} {R : Nat → Prop} {n : Nat} {xs : List Value} {L : List (T n)} (h : CopiesAt w R n xs L) {u : Array Value} {k : T n} (hu : TreeR w R n u k) : CopiesAt w R n (xs ++ u.toList) (L ++ [k]) := by
  obtain ⟨kk, nm, a, al, ac, tx, ka, kl, kc, rfl⟩ := hu.form
  refine ⟨by simp [h.1]; omega, fun x hx => ?_, fun i q hq => ?_⟩
  · rw [List.mem_append] at hx
    rcases hx with hx | hx
    · exact h.2.1 x hx
    · simp only [List.mem_cons, List.not_mem_nil, or_false] at hx
      rcases hx with rfl | rfl | rfl | rfl | rfl <;> rfl
  · have hl := h.1
    rcases Nat.lt_or_ge i L.length with hi | hi
    · rw [List.getElem?_append_left hi] at hq
      obtain ⟨u, h1, h2, h3⟩ := h.2.2 i q hq
      refine ⟨u, h1, fun j hj => ?_, h3⟩
      rw [List.getElem?_append_left (by omega)]
      exact h2 j hj
    · have hi' : i = L.length := by
        have := (List.getElem?_eq_some_iff.1 hq).1
        simp at this
        omega
      subst hi'
      simp at hq
      subst hq
      refine ⟨_, rfl, fun j hj => ?_, hu⟩
      rw [List.getElem?_append_right (by omega), hl]
      simp

theorem news_new (w : World) (cs : Array Value) (T : TypeId) : ∀ j u, cs.toList[j]? = some u → ∃ ad, some (⟨w.heap.size, 0, none⟩ : Addr) = some ad ∧ (w.alloc (.cells cs T)).cell? (ad.add j) = some u := by
  intro j u hu
  refine ⟨_, rfl, ?_⟩
  rw [addr_plus, Nat.zero_add, (isCells_new w cs T).cell]
  simpa using hu
theorem tree_one (k : Int) (nm : ByteArray) (a : Option Addr) (al ac : Nat) (tx : ByteArray) (ka : Option Addr) (kl kc : Nat) : ∀ u ∈ [Value.int .i64 k, .string nm, .slice a al ac, .string tx, .slice ka kl kc], u.oneCell' = true := by
  intro u hu
  simp only [List.mem_cons, List.not_mem_nil, or_false] at hu
  rcases hu with rfl | rfl | rfl | rfl | rfl <;> rfl
theorem take_more {α : Type} {l : List α} {i : Nat} {x : α} (h : l[i]? = some x) : l.take (i + 1) = l.take i ++ [x] := by rw [List.take_add_one, h]; rfl

end Go.Proofs.YtmifejkddgcbmaaGreat
