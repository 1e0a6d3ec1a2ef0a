/- Lines and columns: one more byte is one more column, or a further line. -/
import Derived.Test.YtmifejkddgcbmabGreatA31
namespace Go.Proofs.YtmifejkddgcbmabGreat
open Go.RowKit
set_option linter.unusedVariables false
set_option linter.unusedSimpArgs false

theorem take_next {l : Bs} {a : Nat} {b : UInt8} (h : l[a]? = some b) : l.take (a + 1) = l.take a ++ [b] := by rw [List.take_add_one, h]; rfl
theorem take_length' {l : Bs} {a : Nat} (h : a ≤ l.length) : (l.take a).length = a := by rw [List.length_take]; omega
theorem line_next {l : Bs} {a : Nat} {b : UInt8} (h : l[a]? = some b) : lineP l (a + 1) = lineP l a + (if b = 10 then 1 else 0) := by
  unfold lineP
  rw [take_next h, List.count_append]
  by_cases e : b = 10
  · rw [if_pos e, e]; simp; omega
  · rw [if_neg e]; simp [e]
theorem col_next {l : Bs} {a : Nat} {b : UInt8} (h : l[a]? = some b) : colP l (a + 1) = if b = 10 then 1 else colP l a + 1 := by
  have ha := (List.getElem?_eq_some_iff.1 h).1
  unfold colP
  rw [take_next h, last_snoc, take_length' (by omega)]
  by_cases e : b = 10
  · rw [if_pos e, if_pos e]; omega
  · rw [if_neg e, if_neg e]; omega
theorem where_bd {l : Bs} {a : Nat} (h : a ≤ l.length) : 1 ≤ lineP l a ∧ lineP l a ≤ a + 1 ∧ 1 ≤ colP l a ∧ colP l a ≤ a + 1 ∧ lineP l a + colP l a ≤ a + 2 := by
  have h1 := lastK_bd (l.take a) 10 (l.take a).length
  have h2 := count_le_last 10 (l.take a)
  have h3 : (l.take a).count 10 ≤ (l.take a).length := List.count_le_length
  rw [take_length' h] at h1 h3
  unfold lineP colP
  unfold lastI at h2 ⊢
  rw [take_length' h] at h2 ⊢
  omega

set_option maxRecDepth 100000 in
set_option maxHeartbeats 4000000 in
theorem wherelaw_walk (w : World) (tx : ByteArray) (a : Int) (hs : tx.size < 1152921504606846976) (h0 : 0 < w.heap.size) (m : Int) (hm : w.cell? ⟨0, 0, none⟩ = some (.int .i64 m)) : Calls Tryz.prog 3 #[.string tx, .int .i64 a] w fun e w' => e = .returned (.bool true) ∧ Below w.heap.size w w' := by
  have hlv := lives_any w h0 m hm
  clear hm
  by_cases hb : a < 0 ∨ (tx.size : Int) < a
  · have hwh := fun W => where_bad W tx a hb
    by_cases h1 : a < 0
    · clear hb
      go_enter Tryz.func3, Tryz.ntmps3
      go_wp2_with fail
      refine hlv.mono ?_
      rintro e w1 ⟨rfl, hb1⟩
      have HB1 : Hid (Below w.heap.size w w1) := hb1
      have hw1 := hwh w1
      clear hlv hb1 hwh
      go_wp2_with fail
      refine hw1.mono ?_
      rintro e w2 ⟨rfl, hw2⟩
      obtain rfl := hw2.symm
      clear hw1
      go_wp2
      go_ret
      exact ⟨rfl, HB1.out⟩
    · have h2 : (tx.size : Int) < a := by omega
      clear hb
      go_enter Tryz.func3, Tryz.ntmps3
      go_wp2_with fail
      refine hlv.mono ?_
      rintro e w1 ⟨rfl, hb1⟩
      have HB1 : Hid (Below w.heap.size w w1) := hb1
      have hw1 := hwh w1
      clear hlv hb1 hwh
      go_wp2_with fail
      refine hw1.mono ?_
      rintro e w2 ⟨rfl, hw2⟩
      obtain rfl := hw2.symm
      clear hw1
      go_wp2
      go_ret
      exact ⟨rfl, HB1.out⟩
  · obtain ⟨n, rfl⟩ : ∃ n : Nat, a = n := ⟨a.toNat, by omega⟩
    have hn : n ≤ tx.size := by omega
    have hbd := where_bd (l := tx.data.toList) (a := n) (by rw [size_list]; exact hn)
    have hwh := fun W => where_any W tx hs n hn
    have t1 : ¬ (n : Int) < 0 := by omega
    have t2 : ¬ (tx.size : Int) < (n : Int) := by omega
    clear hb
    by_cases he : n = tx.size
    · obtain ⟨b1, b2, b3, b4, b5⟩ := hbd
      generalize lineP tx.data.toList n = LP at *
      generalize colP tx.data.toList n = CP at *
      have e1 : ((n : Int) == (tx.size : Int)) = true := by rw [he]; simp
      have l1 : ¬ LP < 1 := by omega
      have l2 : ¬ CP < 1 := by omega
      have l3 : LP + CP ≤ (tx.size : Int) + 2 := by omega
      clear he
      go_enter Tryz.func3, Tryz.ntmps3
      go_wp2_with fail
      refine hlv.mono ?_
      rintro e w1 ⟨rfl, hb1⟩
      have HB1 : Hid (Below w.heap.size w w1) := hb1
      have hw1 := hwh w1
      clear hlv hb1 hwh
      go_wp2_with fail
      refine hw1.mono ?_
      rintro e w2 ⟨rfl, hw2⟩
      obtain rfl := hw2.symm
      clear hw1
      go_wp2
      go_ret
      exact ⟨rfl, HB1.out⟩
    · have hlt : n < tx.size := by omega
      have hg : tx.data.toList[n]? = some (tx[n]'hlt) := get_some hlt
      have hln := line_next hg
      have hcn := col_next hg
      have hwh2 := fun W => where_any W tx hs (n + 1) (by omega)
      obtain ⟨b1, b2, b3, b4, b5⟩ := hbd
      have e1 : ((n : Int) == (tx.size : Int)) = false := beq_eq_false_iff_ne.2 (by omega)
      have t3 : (0 : Int) ≤ (n : Int) := by omega
      have t4 : (n : Int) < (tx.size : Int) := by omega
      by_cases hb : (tx[n]'hlt) = 10
      · rw [if_pos hb] at hln hcn
        have hbn : (((tx[n]'hlt).toNat : Int) == 10) = true := by rw [hb]; rfl
        simp only [hln, hcn] at hwh2
        generalize lineP tx.data.toList n = LP at *
        generalize colP tx.data.toList n = CP at *
        have l1 : ¬ LP < 1 := by omega
        have l2 : ¬ CP < 1 := by omega
        have l3 : (LP + 1 == LP + 1) = true := by simp
        clear hln hcn hg hb he
        go_enter Tryz.func3, Tryz.ntmps3
        go_wp2_with fail
        refine hlv.mono ?_
        rintro e w1 ⟨rfl, hb1⟩
        have HB1 : Hid (Below w.heap.size w w1) := hb1
        have hw1 := hwh w1
        have hw2 := hwh2 w1
        clear hlv hb1 hwh hwh2
        go_wp2_with fail
        refine hw1.mono ?_
        rintro e w2 ⟨rfl, hw⟩
        obtain rfl := hw.symm
        clear hw1
        go_wp2_with fail
        refine hw2.mono ?_
        rintro e w2 ⟨rfl, hw⟩
        obtain rfl := hw.symm
        clear hw2
        go_wp2
        go_ret
        exact ⟨rfl, HB1.out⟩
      · rw [if_neg hb] at hln hcn
        have hbn : (((tx[n]'hlt).toNat : Int) == 10) = false := by
          rw [beq_eq_false_iff_ne]
          intro e
          exact hb (UInt8.toNat_inj.1 (by show (tx[n]'hlt).toNat = 10; omega))
        rw [Int.add_zero] at hln
        simp only [hln, hcn] at hwh2
        generalize lineP tx.data.toList n = LP at *
        generalize colP tx.data.toList n = CP at *
        have l1 : ¬ LP < 1 := by omega
        have l2 : ¬ CP < 1 := by omega
        have l3 : (LP == LP) = true := by simp
        have l4 : (CP + 1 == CP + 1) = true := by simp
        clear hln hcn hg hb he
        go_enter Tryz.func3, Tryz.ntmps3
        go_wp2_with fail
        refine hlv.mono ?_
        rintro e w1 ⟨rfl, hb1⟩
        have HB1 : Hid (Below w.heap.size w w1) := hb1
        have hw1 := hwh w1
        have hw2 := hwh2 w1
        clear hlv hb1 hwh hwh2
        go_wp2_with fail
        refine hw1.mono ?_
        rintro e w2 ⟨rfl, hw⟩
        obtain rfl := hw.symm
        clear hw1
        go_wp2_with fail
        refine hw2.mono ?_
        rintro e w2 ⟨rfl, hw⟩
        obtain rfl := hw.symm
        clear hw2
        go_wp2
        go_ret
        exact ⟨rfl, HB1.out⟩

end Go.Proofs.YtmifejkddgcbmabGreat
