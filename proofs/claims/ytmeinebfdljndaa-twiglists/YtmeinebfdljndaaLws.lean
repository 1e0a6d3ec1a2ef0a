/- What the law holds once the names are made. -/
import Derived.Test.YtmeinebfdljndaaLsa
namespace Go.Proofs.Ytmeinebfdljndaa
open Go.RowKit
set_option linter.unusedVariables false

structure LwS (B0 clb : Nat) (wr : World) (n : Nat) (tv : Array Value) (t : TP n) (N : List Pl) (na : Option Addr) (nc : Nat) (ad : Addr) (C : List ByteArray) (ra : Option Addr) (rc : Nat) (pan : Int) : Prop where
  tw : TwAt wr wr.heap.size n tv t
  bt : IsCells wr B0 tv
  bn : IsCells wr (B0 + 1) #[.slice na N.length nc]
  bp : IsCells wr (B0 + 2) #[.int .i64 pan]
  bc : IsCells wr clb #[.slice ra C.length rc]
  pn : PlsAt wr wr.heap.size na N
  po : PlsAt wr wr.heap.size (some ad) N
  sc : StA wr ra C
theorem LwS.bel {B0 clb : Nat} {wr X : World} {n : Nat} {tv : Array Value} {t : TP n} {N : List Pl} {na : Option Addr} {nc : Nat} {ad : Addr} {C : List ByteArray} {ra : Option Addr} {rc : Nat} {pan : Int} (h : LwS B0 clb wr n tv t N na nc ad C ra rc pan) (hX : Below wr.heap.size wr X) : LwS B0 clb X n tv t N na nc ad C ra rc pan :=
  ⟨(h.tw.below hX (Nat.le_refl _)).mono hX.size, h.bt.of_block (hX.block _ h.bt.lt), h.bn.of_block (hX.block _ h.bn.lt), h.bp.of_block (hX.block _ h.bp.lt), h.bc.of_block (hX.block _ h.bc.lt), h.pn.bel hX, h.po.bel hX, h.sc.bel hX⟩
theorem LwS.env {B0 clb : Nat} {wr X : World} {n : Nat} {tv : Array Value} {t : TP n} {N : List Pl} {na : Option Addr} {nc : Nat} {ad : Addr} {C : List ByteArray} {ra : Option Addr} {rc : Nat} {pan : Int} (h : LwS B0 clb wr n tv t N na nc ad C ra rc pan) (hX : Below wr.heap.size wr X) (c0 : IsCells X wr.heap.size #[.int .i64 0]) (g0 : IsCells X (wr.heap.size + 1) #[.bool true]) :
    NmI X.heap.size wr.heap.size (wr.heap.size + 1) X.heap.size (B0 + 2) (B0 + 1) clb N C pan na nc ra rc 0 X := by
  have hs := hX.size
  have hg := g0.lt
  have hX2 := h.bel hX
  have gd : ∀ b, b < wr.heap.size → Gd X.heap.size wr.heap.size (wr.heap.size + 1) X.heap.size b := fun b hb => ⟨by omega, by omega, by omega, by omega⟩
  refine ⟨⟨Nat.le_refl _, ⟨hX2.bp, gd _ h.bp.lt⟩, ⟨hX2.bn, gd _ h.bn.lt⟩, ⟨hX2.bc, gd _ h.bc.lt⟩, fun i x hx => ?_, fun i s hi => ?_, by omega, by omega, hg⟩, c0, g0⟩
  · obtain ⟨b, o, h1, h2, h3, h4⟩ := h.pn i x hx
    exact ⟨b, o, h1, gd _ h2, (hX.cell (p := ⟨b, o + i * 4, none⟩) h2).trans h3⟩
  · obtain ⟨b, o, h1, h2, h3⟩ := h.sc i s hi
    exact ⟨b, o, h1, gd _ h2, (hX.cell (p := ⟨b, o + i, none⟩) h2).trans h3⟩
theorem CaS.sta {Wc wr : World} {l : List ByteArray} {ra : Option Addr} {rc : Nat} (h : CaS Wc wr l ra rc) : StA wr ra l := fun i s hs => by
  obtain ⟨g, h1, h2, h3, h4⟩ := h.st hs
  exact ⟨g, 0, h1, h3, by simpa using h4⟩

end Go.Proofs.Ytmeinebfdljndaa
