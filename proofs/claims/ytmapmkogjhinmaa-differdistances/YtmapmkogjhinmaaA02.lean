/- What Text answers, the program's and the document's. -/
import Derived.Test.YtmapmkogjhinmaaA01
import Derived.Lib.OthersKept
namespace Go.Proofs.Ytmapmkogjhinmaa
open Go.RowKit
set_option maxRecDepth 100000
set_option maxHeartbeats 4000000
set_option linter.unusedVariables false
set_option linter.unusedSimpArgs false
def bans (l : List UInt8) : Int × Int := if (scan l).2 = [] then (0, 0) else (((bytes (scan l).1).length : Int), 7)
def tans (l : List UInt8) : Int × Int := if 16384 < l.length then (0, 2) else bans l
theorem scan_at {l : List UInt8} {a b : List Nat} (h : (scan l).1 = a ++ b) : l.drop (bytes a).length = bytes b ++ (scan l).2 := by
 have h1 := (scan_spec l).1
 rw [h, bytes_append, List.append_assoc] at h1
 have h2 : l.drop (bytes a).length = (bytes a ++ (bytes b ++ (scan l).2)).drop (bytes a).length := by rw [<- h1]
 rw [h2]
 simp
theorem scan_le {l : List UInt8} {a b : List Nat} (h : (scan l).1 = a ++ b) : (bytes a).length + (bytes b).length + (scan l).2.length = l.length := by
 have h1 := (scan_spec l).1
 rw [h, bytes_append, List.append_assoc] at h1
 have h2 := congrArg List.length h1
 simp only [List.length_append] at h2
 omega
theorem scan_step {l : List UInt8} {a b : List Nat} (h : (scan l).1 = a ++ b) (hp : (bytes a).length < l.length) :
  (∃ r b', b = r :: b' /\ Ch r /\ first (l.drop (bytes a).length) = some (r, (enc r).length) /\ (scan l).1 = (a ++ [r]) ++ b' /\ (bytes (a ++ [r])).length = (bytes a).length + (enc r).length /\ (bytes a).length + (enc r).length <= l.length) \/
  (b = [] /\ first (l.drop (bytes a).length) = none /\ (scan l).2 ≠ [] /\ bans l = (((bytes a).length : Int), 7)) := by
 have h1 := scan_at h
 have h2 := scan_le h
 have h3 := scan_spec l
 cases b with
 | nil =>
  right
  rw [bytes_nil, List.nil_append] at h1
  have hne : (scan l).2 ≠ [] := by
   intro he
   rw [he, bytes_nil] at h2
   simp at h2
   omega
  refine ⟨rfl, by rw [h1]; exact h3.2.2, hne, ?_⟩
  rw [List.append_nil] at h
  rw [bans, if_neg hne, h]
 | cons r b' =>
  left
  have hr : Ch r := h3.2.1 r (by rw [h]; simp)
  rw [bytes_cons, List.append_assoc] at h1
  rw [bytes_cons, List.length_append] at h2
  refine ⟨r, b', rfl, hr, by rw [h1]; exact first_enc hr _, by rw [h]; simp, ?_, by omega⟩
  rw [bytes_append, List.length_append, bytes_cons, bytes_nil, List.append_nil]
theorem scan_end {l : List UInt8} {a b : List Nat} (h : (scan l).1 = a ++ b) (hp : ¬ (bytes a).length < l.length) : b = [] /\ (scan l).2 = [] /\ bans l = (0, 0) := by
 have h2 := scan_le h
 have hr : (scan l).2 = [] := List.length_eq_zero_iff.1 (by omega)
 refine ⟨?_, hr, by rw [bans, if_pos hr]⟩
 cases b with
 | nil => rfl
 | cons r b' =>
  rw [bytes_cons, List.length_append] at h2
  have := enc_pos r
  omega
theorem fans_of {l : List UInt8} {r n : Nat} (h : first l = some (r, n)) : fans l = ((r : Int), (n : Int), 0) := by
 cases l with
 | nil => simp [first] at h
 | cons b t => simp [fans, h]
theorem fans_no {l : List UInt8} (hl : 0 < l.length) (h : first l = none) : fans l = (0, 0, 7) := by
 cases l with
 | nil => simp at hl
 | cons b t => simp [fans, h]
theorem text_long (w : World) (s : ByteArray) (h : 16384 < s.size) :
  Calls Try.prog 61 #[.string s] w fun e w' => e = .returned (.tuple #[.int .i64 0, .int .i64 2]) /\ w' = w := by
 go_enter Try.func61, Try.ntmps61
 go_wp2
 go_ret2
 exact ⟨rfl, rfl⟩
theorem text_walk (w : World) (s : ByteArray) (h : s.size <= 16384) (x y : Int) (hxy : bans s.data.toList = (x, y)) :
  Calls Try.prog 61 #[.string s] w fun e w' => e = .returned (.tuple #[.int .i64 x, .int .i64 y]) /\ Below w.heap.size w w' := by
 have HX : Hid (bans s.data.toList = (x, y)) := hxy
 have hl := size_list s
 clear hxy
 go_enter Try.func61, Try.ntmps61
 go_wp2
 go_loopw [] (fun wr => ∃ (a b : List Nat), Hid ((scan s.data.toList).1 = a ++ b) /\ wr.heap[w.heap.size]? = some (.stringIter s (bytes a).length) /\ Hid (Below w.heap.size w wr)) (fun wr => s.size - wr.iterPos w.heap.size)
 case atStart =>
  refine ⟨[], (scan s.data.toList).1, rfl, ?_, ?_⟩
  ·exact World.iter_heap w s 0
  ·exact below_new w _
 case round =>
  obtain ⟨a, b, hab, hit, hbw⟩ := hrel
  have hszr : w.heap.size < wr.heap.size := (Array.getElem?_eq_some_iff.1 hit).1
  have hm0 : wr.iterPos w.heap.size = (bytes a).length := by simp only [World.iterPos, hit]
  by_cases hp : (bytes a).length < s.size
  ·have hnx : ∀ ty, (Instr.next (.pointer (some ⟨w.heap.size, 0, none⟩)) true ty).run Try.prog wr = _ := fun ty => Lib.run_next_any_at wr w.heap.size s (bytes a).length ty hit hp
   have hit1 := Lib.iterAt_heap wr w.heap.size s (bytes a).length ((bytes a).length + (Utf8.decode s (bytes a).length).2) hit
   have hbw1 : Hid (Below w.heap.size w (wr.iterAt w.heap.size s ((bytes a).length + (Utf8.decode s (bytes a).length).2))) := Lib.below_iterAt hbw.out (Nat.le_refl _) s _
   have hsz1 := Lib.iterAt_size wr w.heap.size s ((bytes a).length + (Utf8.decode s (bytes a).length).2)
   have hfi := first_any (wr.iterAt w.heap.size s ((bytes a).length + (Utf8.decode s (bytes a).length).2)) (s.extract (bytes a).length s.size)
   have hex : (s.extract (bytes a).length s.size).data.toList = s.data.toList.drop (bytes a).length := by
    rw [Lib.extract_data, List.take_of_length_le]
    rw [List.length_drop, hl]
    exact Nat.le_refl _
   have hdl : (s.data.toList.drop (bytes a).length).length = s.size - (bytes a).length := by rw [List.length_drop, hl]
   rw [hex, hsz1] at hfi
   have hst := scan_step hab.out (by rw [hl]; exact hp)
   rcases hst with ⟨r, b', rfl, hr, hf, hsc, hlen, hle⟩ | ⟨rfl, hf, hne, hans⟩
   ·have hdec : Utf8.decode s (bytes a).length = (r, (enc r).length) := by
     obtain ⟨_, _, t, ht⟩ := first_some hf
     exact decode_enc hr ht
    rw [fans_of hf] at hfi
    rw [hdec] at hnx hit1 hbw1 hfi
    rw [<- hlen] at hnx hit1 hbw1 hfi
    have HSC : Hid ((scan s.data.toList).1 = (a ++ [r]) ++ b') := hsc
    have hpl : (bytes a).length < (bytes (a ++ [r])).length := by have := enc_pos r; omega
    generalize wr.iterAt w.heap.size s (bytes (a ++ [r])).length = W1 at *
    clear hab hf hsc hdec hex HX hbw hle hlen
    generalize hq : (bytes a).length = q at *
    clear hq
    go_wp2_with fail
    refine hfi.mono ?_
    rintro e W2 ⟨rfl, hb2⟩
    have hit2 : W2.heap[w.heap.size]? = some (.stringIter s (bytes (a ++ [r])).length) := by rw [hb2.block w.heap.size hszr]; exact hit1
    go_wp2
    go_roundw
    case rel => exact ⟨a ++ [r], b', HSC, hit2, hbw1.out.trans (hb2.mono (by omega))⟩
    case measure =>
     simp only [World.iterPos, hit2, hit]
     omega
   ·rw [fans_no (by omega) hf] at hfi
    have hxy : x = ((bytes a).length : Int) /\ y = 7 := by
     have := HX.out
     rw [hans] at this
     simp only [Prod.mk.injEq] at this
     omega
    obtain ⟨hx1, hy1⟩ := hxy
    clear hab hf hex hbw HX hans hne
    generalize wr.iterAt w.heap.size s ((bytes a).length + (Utf8.decode s (bytes a).length).2) = W1 at *
    generalize hq : (bytes a).length = q at *
    clear hq
    go_wp2_with fail
    refine hfi.mono ?_
    rintro e W2 ⟨rfl, hb2⟩
    go_wp2
    go_ret2
    exact ⟨congrArg _ (v_two hx1.symm hy1.symm), hbw1.out.trans (hb2.mono (by omega))⟩
  ·have hnx : ∀ ty, (Instr.next (.pointer (some ⟨w.heap.size, 0, none⟩)) true ty).run Try.prog wr = _ := fun ty => Lib.run_next_end_at wr w.heap.size s (bytes a).length ty hit hp
   have he := (scan_end hab.out (by rw [hl]; exact hp)).2.2
   have hxy : x = 0 /\ y = 0 := by
    have := HX.out
    rw [he] at this
    simp only [Prod.mk.injEq] at this
    omega
   obtain ⟨rfl, rfl⟩ := hxy
   clear hab HX he
   go_wp2
   go_ret2
   exact ⟨rfl, hbw.out⟩
theorem text_any (w : World) (s : ByteArray) :
  Calls Try.prog 61 #[.string s] w fun e w' => e = .returned (.tuple #[.int .i64 (tans s.data.toList).1, .int .i64 (tans s.data.toList).2]) /\ Below w.heap.size w w' := by
 have hl := size_list s
 by_cases h : 16384 < s.size
 ·rw [tans, if_pos (by omega)]
  refine (text_long w s h).mono ?_
  rintro e w' ⟨rfl, rfl⟩
  exact ⟨rfl, Below.refl _ _⟩
 ·rw [tans, if_neg (by omega)]
  exact text_walk w s (by omega) _ _ rfl
theorem bad_walk (w : World) (s : ByteArray) (h : s.size < 1152921504606846976) (x y : Int) (hxy : bans s.data.toList = (x, y)) :
  Calls Try.prog 66 #[.string s] w fun e w' => e = .returned (.tuple #[.int .i64 x, .int .i64 y]) /\ Below w.heap.size w w' := by
 have HX : Hid (bans s.data.toList = (x, y)) := hxy
 have hl := size_list s
 clear hxy
 go_enter Try.func66, Try.ntmps66
 go_wp2
 go_loopw [4] (fun v wr => ∃ (a b : List Nat), Hid ((scan s.data.toList).1 = a ++ b) /\ v = .int .i64 ((bytes a).length : Int) /\ Hid (Below w.heap.size w wr)) (fun v _ => s.size - (intOf v).toNat)
 case atStart => exact ⟨[], (scan s.data.toList).1, rfl, rfl, Below.refl _ _⟩
 case round =>
  obtain ⟨a, b, hab, rfl, hbw⟩ := hrel
  have hws := hbw.out.size
  by_cases hp : (bytes a).length < s.size
  ·have hat := at_any wr s (bytes a).length hp h
   have hst := scan_step hab.out (by rw [hl]; exact hp)
   rcases hst with ⟨r, b', rfl, hr, hf, hsc, hlen, hle⟩ | ⟨rfl, hf, hne, hans⟩
   ·have haa : aans (s.data.toList.drop (bytes a).length) = ((r : Int), ((enc r).length : Int)) := by simp [aans, hf]
    rw [haa] at hat
    have hpl := enc_pos r
    have HSC : Hid ((scan s.data.toList).1 = (a ++ [r]) ++ b') := hsc
    have HLN : Hid ((bytes (a ++ [r])).length = (bytes a).length + (enc r).length) := hlen
    have hz : (((enc r).length : Int) == 0) = false := beq_eq_false_iff_ne.2 (by omega)
    rw [hl] at hle
    clear hab hf hsc haa HX hlen
    generalize (enc r).length = m at *
    generalize (bytes a).length = q at *
    go_wp2_with fail
    refine hat.mono ?_
    rintro e W2 ⟨rfl, hb2⟩
    go_wp2
    go_roundw
    case rel => exact ⟨a ++ [r], b', HSC, congrArg _ (by have := HLN.out; omega), hbw.out.trans (hb2.mono hws)⟩
    case measure => simp [intOf]; omega
   ·have haa : aans (s.data.toList.drop (bytes a).length) = (0, 0) := by simp [aans, hf]
    rw [haa] at hat
    have hxy : x = ((bytes a).length : Int) /\ y = 7 := by
     have := HX.out
     rw [hans] at this
     simp only [Prod.mk.injEq] at this
     omega
    obtain ⟨hx1, hy1⟩ := hxy
    clear hab hf HX hans hne haa
    generalize (bytes a).length = q at *
    go_wp2_with fail
    refine hat.mono ?_
    rintro e W2 ⟨rfl, hb2⟩
    go_wp2
    go_ret2
    exact ⟨congrArg _ (v_two hx1.symm hy1.symm), hbw.out.trans (hb2.mono hws)⟩
  ·have he := (scan_end hab.out (by rw [hl]; exact hp)).2.2
   have hxy : x = 0 /\ y = 0 := by
    have := HX.out
    rw [he] at this
    simp only [Prod.mk.injEq] at this
    omega
   obtain ⟨hx1, hy1⟩ := hxy
   clear hab HX he
   go_wp2
   go_ret2
   exact ⟨congrArg _ (v_two hx1.symm hy1.symm), hbw.out⟩
theorem rtext_long (w : World) (s : ByteArray) (h : 16384 < s.size) :
  Calls Try.prog 58 #[.string s] w fun e w' => e = .returned (.tuple #[.int .i64 0, .int .i64 2]) /\ w' = w := by
 go_enter Try.func58, Try.ntmps58
 go_wp2
 go_ret2
 exact ⟨rfl, rfl⟩
theorem rtext_walk (w : World) (s : ByteArray) (h : s.size <= 16384) (x y : Int) (hxy : Calls Try.prog 66 #[.string s] w fun e w' => e = .returned (.tuple #[.int .i64 x, .int .i64 y]) /\ Below w.heap.size w w') :
  Calls Try.prog 58 #[.string s] w fun e w' => e = .returned (.tuple #[.int .i64 x, .int .i64 y]) /\ Below w.heap.size w w' := by
 go_enter Try.func58, Try.ntmps58
 go_wp2_with fail
 refine hxy.mono ?_
 rintro e w' ⟨rfl, hb⟩
 go_wp2
 go_ret2
 exact ⟨rfl, hb⟩
theorem rtext_any (w : World) (s : ByteArray) :
  Calls Try.prog 58 #[.string s] w fun e w' => e = .returned (.tuple #[.int .i64 (tans s.data.toList).1, .int .i64 (tans s.data.toList).2]) /\ Below w.heap.size w w' := by
 have hl := size_list s
 by_cases h : 16384 < s.size
 ·rw [tans, if_pos (by omega)]
  refine (rtext_long w s h).mono ?_
  rintro e w' ⟨rfl, rfl⟩
  exact ⟨rfl, Below.refl _ _⟩
 ·rw [tans, if_neg (by omega)]
  exact rtext_walk w s (by omega) _ _ (bad_walk w s (by omega) _ _ rfl)
def nameL (l : List UInt8) : Bool := decide (1 <= l.length /\ l.length <= 32) && (l.take 1).all (fun b => beginB b.toNat) && l.all fun b => inB b.toNat
theorem take_snoc {α : Type} {l : List α} {i : Nat} (h : i < l.length) : l.take (i + 1) = l.take i ++ [l[i]] := by rw [List.take_add_one, List.getElem?_eq_getElem h]; rfl
theorem name_false_of {l : List UInt8} {i : Nat} (hi : i < l.length) (h : inB (l[i]).toNat = false \/ (i = 0 /\ beginB (l[i]).toNat = false)) : nameL l = false := by
  rcases h with h | ⟨h0, h⟩
  · have : (l.all fun b => inB b.toNat) = false := by
      rw [List.all_eq_false]
      exact ⟨l[i], List.getElem_mem _, by simp [h]⟩
    simp [nameL, this]
  · subst h0
    have : ((l.take 1).all fun b => beginB b.toNat) = false := by
      rw [List.all_eq_false]
      refine ⟨l[0], ?_, by simp [h]⟩
      rw [List.mem_take_iff_getElem]
      exact ⟨0, by omega, rfl⟩
    simp [nameL, this]
theorem name_out (w : World) (s : ByteArray) (h : s.toList.isEmpty = true \/ 32 < s.size) :
    Calls Try.prog 59 #[.string s] w fun e w' => e = .returned (.bool false) /\ w' = w := by
  cases h1 : s.toList.isEmpty
  · have h2 : 32 < s.size := by
      rcases h with h | h
      · rw [h1] at h; simp at h
      · exact h
    clear h
    go_enter Try.func59, Try.ntmps59
    go_wp2
    go_ret
    exact ⟨rfl, rfl⟩
  · clear h
    go_enter Try.func59, Try.ntmps59
    go_wp2
    go_ret
    exact ⟨rfl, rfl⟩
theorem name_walk (w : World) (s : ByteArray) (h0 : 0 < s.size) (h : s.size <= 32) (x : Bool) (hx : nameL s.data.toList = x) :
    Calls Try.prog 59 #[.string s] w fun e w' => e = .returned (.bool x) /\ Below w.heap.size w w' := by
  obtain ⟨W, cap, hrun, hbel, hWs, hc⟩ := conv_bytes w s
  have hne := notEmpty h0
  have hl := size_list s
  have HC : Hid (∀ j (hj : j < s.data.toList.length), W.cell? ⟨w.heap.size, j, none⟩ = some (.int .u8 ((s.data.toList[j]).toNat : Int))) := bytes_cell hc
  have HX : Hid (nameL s.data.toList = x) := hx
  have HW : Hid (Below w.heap.size w W) := hbel
  generalize s.data.toList = l at *
  clear hc hx hbel
  go_enter Try.func59, Try.ntmps59
  go_wp2
  go_loop [15] (fun v => ∃ i : Nat, i <= s.size /\ v = .int .i64 (i : Int) /\ Hid (∀ j (hj : j < l.length), j < i -> inB (l[j]).toNat = true /\ (j = 0 -> beginB (l[j]).toNat = true))) (fun v => s.size - (intOf v).toNat)
  case atStart => exact ⟨0, by omega, rfl, fun j hj h => by omega⟩
  case round =>
    obtain ⟨i, hi, rfl, hall⟩ := hrel
    by_cases hlt : i < s.size
    · have hcell := HC.out i (by omega)
      have HF : Hid ((inB (l[i]'(by omega)).toNat = false \/ (i = 0 /\ beginB (l[i]'(by omega)).toNat = false)) -> x = false) := fun h => by rw [<- HX.out]; exact name_false_of (by omega) h
      have HS : Hid (inB (l[i]'(by omega)).toNat = true /\ (i = 0 -> beginB (l[i]'(by omega)).toNat = true) -> ∀ j (hj : j < l.length), j < i + 1 -> inB (l[j]).toNat = true /\ (j = 0 -> beginB (l[j]).toNat = true)) := by
        intro h j hj hji
        rcases Nat.lt_or_ge j i with h1 | h1
        · exact hall.out j hj h1
        · have : j = i := by omega
          subst this
          exact h
      have hb256 : ((l[i]'(by omega)).toNat : Int) < 256 := by have := UInt8.toNat_lt (l[i]'(by omega)); omega
      generalize (l[i]'(by omega)).toNat = b at hcell HF HS hb256
      have h95 : ((b : Int) == 95) = decide (b = 95) := by rw [Bool.eq_iff_iff]; simp; omega
      have h45 : ((b : Int) == 45) = decide (b = 45) := by rw [Bool.eq_iff_iff]; simp; omega
      have h46 : ((b : Int) == 46) = decide (b = 46) := by rw [Bool.eq_iff_iff]; simp; omega
      have h00 : ((i : Int) == 0) = decide (i = 0) := by rw [Bool.eq_iff_iff]; simp
      clear HX HC hall
      go_wp2
      all_goals first
        | (go_ret
           refine ⟨congrArg _ (v_bool (HF.out ?_).symm), HW.out⟩
           simp only [inB, beginB, decide_eq_false_iff_not]
           omega)
        | (go_round
           case rel =>
             refine ⟨i + 1, by omega, by go_num, HS.out ?_⟩
             simp only [inB, beginB, decide_eq_true_eq]
             omega
           case measure => simp [intOf]; omega)
    · have hfin : x = true := by
        have ha := hall.out
        have h1 : (l.all fun b => inB b.toNat) = true := by
          rw [List.all_eq_true]
          intro b hb
          obtain ⟨j, hj, rfl⟩ := List.getElem_of_mem hb
          exact (ha j hj (by omega)).1
        have h2 : ((l.take 1).all fun b => beginB b.toNat) = true := by
          rw [List.all_eq_true]
          intro b hb
          rw [List.mem_take_iff_getElem] at hb
          obtain ⟨j, hj, rfl⟩ := hb
          exact (ha j (by omega) (by omega)).2 (by omega)
        rw [<- HX.out, nameL, h1, h2]
        simp
        omega
      clear HX HC hall
      go_wp2
      go_ret
      first | exact ⟨congrArg _ (v_bool hfin.symm), HW.out⟩ | exact ⟨rfl, HW.out⟩
theorem rname_out (w : World) (s : ByteArray) (h : s.size < 1 \/ 32 < s.size) :
    Calls Try.prog 56 #[.string s] w fun e w' => e = .returned (.bool false) /\ w' = w := by
  rcases Nat.lt_or_ge s.size 1 with h1 | h1
  · clear h
    go_enter Try.func56, Try.ntmps56
    go_wp2
    go_ret
    exact ⟨rfl, rfl⟩
  · have h2 : 32 < s.size := by omega
    clear h
    go_enter Try.func56, Try.ntmps56
    go_wp2
    go_ret
    exact ⟨rfl, rfl⟩
theorem rname_not (w : World) (s : ByteArray) (h0 : 0 < s.size) (h : s.size <= 32) (hb : beginB (s[0]'h0).toNat = false) :
    Calls Try.prog 56 #[.string s] w fun e w' => e = .returned (.bool false) /\ w' = w := by
  have hbg := begins_any w (s[0]'h0).toNat (UInt8.toNat_lt _)
  rw [hb] at hbg
  go_enter Try.func56, Try.ntmps56
  go_wp2_with fail
  refine hbg.mono ?_
  rintro e w2 ⟨rfl, rfl⟩
  go_wp2
  go_ret
  exact ⟨rfl, rfl⟩
theorem rname_walk (w : World) (s : ByteArray) (h0 : 0 < s.size) (h : s.size <= 32) (hb : beginB (s[0]'h0).toNat = true) (x : Bool) (hx : (s.data.toList.all fun b => inB b.toNat) = x) :
    Calls Try.prog 56 #[.string s] w fun e w' => e = .returned (.bool x) /\ w' = w := by
  have hbg := begins_any w (s[0]'h0).toNat (UInt8.toNat_lt _)
  rw [hb] at hbg
  have hl := size_list s
  have HC : Hid (∀ j (hj : j < s.data.toList.length) (hj' : j < s.size), s.data.toList[j]'hj = s[j]'hj') := fun j hj hj' => (get_list hj').2
  have HX : Hid ((s.data.toList.all fun b => inB b.toNat) = x) := hx
  generalize s.data.toList = l at *
  clear hx
  go_enter Try.func56, Try.ntmps56
  go_wp2_with fail
  refine hbg.mono ?_
  rintro e w2 ⟨rfl, rfl⟩
  go_wp2
  go_loop [3] (fun v => ∃ i : Nat, i <= s.size /\ v = .int .i64 (i : Int) /\ Hid ((l.take i).all (fun b => inB b.toNat) = true)) (fun v => s.size - (intOf v).toNat)
  case atStart => exact ⟨0, by omega, rfl, rfl⟩
  case round =>
    obtain ⟨i, hi, rfl, hall⟩ := hrel
    by_cases hlt : i < s.size
    · have hcell := HC.out i (by omega) hlt
      have hts := take_snoc (l := l) (i := i) (by omega)
      have hmem : (l[i]'(by omega)) ∈ l := List.getElem_mem _
      rw [hcell] at hts hmem
      have hbl := in_any w2 (s[i]'hlt).toNat (UInt8.toNat_lt _)
      cases hB : inB (s[i]'hlt).toNat <;> rw [hB] at hbl
      · have hfin : x = false := by
          rw [<- HX.out, List.all_eq_false]
          exact ⟨_, hmem, by simp [hB]⟩
        clear HX hcell
        go_wp2_with fail
        refine hbl.mono ?_
        rintro e w3 ⟨rfl, rfl⟩
        go_wp2
        go_ret
        first | exact ⟨congrArg _ (v_bool hfin.symm), rfl⟩ | exact ⟨rfl, rfl⟩
      · clear HX hcell
        go_wp2_with fail
        refine hbl.mono ?_
        rintro e w3 ⟨rfl, rfl⟩
        go_wp2
        go_round
        case rel =>
          refine ⟨i + 1, by omega, by go_num, ?_⟩
          show (l.take (i + 1)).all (fun b => inB b.toNat) = true
          rw [hts, List.all_append, hall.out]
          simp [hB]
        case measure => simp [intOf]; omega
    · have hfin : x = true := by
        rw [<- HX.out, <- hall.out, List.take_of_length_le (by omega)]
      clear HX
      go_wp2
      go_ret
      first | exact ⟨congrArg _ (v_bool hfin.symm), rfl⟩ | exact ⟨rfl, rfl⟩
theorem name_any (w : World) (s : ByteArray) :
    Calls Try.prog 59 #[.string s] w fun e w' => e = .returned (.bool (nameL s.data.toList)) /\ Below w.heap.size w w' := by
  have hl := size_list s
  by_cases h : 1 <= s.size /\ s.size <= 32
  · exact name_walk w s (by omega) (by omega) _ rfl
  · have hn : nameL s.data.toList = false := by simp only [nameL, hl, h, decide_false, Bool.false_and]
    rw [hn]
    refine (name_out w s ?_).mono ?_
    · rcases Nat.lt_or_ge s.size 1 with h1 | h1
      · left
        rw [Lib.toList_data]
        have : s.data.toList = [] := List.length_eq_zero_iff.1 (by omega)
        rw [this]
        rfl
      · right; omega
    · rintro e w' ⟨rfl, rfl⟩
      exact ⟨rfl, Below.refl _ _⟩
theorem rname_any (w : World) (s : ByteArray) :
    Calls Try.prog 56 #[.string s] w fun e w' => e = .returned (.bool (nameL s.data.toList)) /\ w' = w := by
  have hl := size_list s
  by_cases h : 1 <= s.size /\ s.size <= 32
  · have h0 : 0 < s.size := by omega
    have ht : s.data.toList.take 1 = [s[0]'h0] := by
      have := drop_get h0
      rw [List.drop_zero] at this
      rw [this]
      rfl
    cases hb : beginB (s[0]'h0).toNat
    · have hn : nameL s.data.toList = false := by simp [nameL, ht, hb]
      rw [hn]
      exact rname_not w s h0 h.2 hb
    · have hn : nameL s.data.toList = s.data.toList.all fun b => inB b.toNat := by simp only [nameL, hl, ht, hb, h, and_self, decide_true, List.all_cons, List.all_nil, Bool.and_self, Bool.true_and]
      rw [hn]
      exact rname_walk w s h0 h.2 hb _ rfl
  · have hn : nameL s.data.toList = false := by simp only [nameL, hl, h, decide_false, Bool.false_and]
    rw [hn]
    exact rname_out w s (by omega)
def IsCells (w : World) (b : Nat) (cs : Array Value) : Prop := ∃ T, w.heap[b]? = some (.cells cs T (0, 0))
theorem IsCells.lt {w : World} {b : Nat} {cs : Array Value} (h : IsCells w b cs) : b < w.heap.size := by
 obtain ⟨T, h⟩ := h
 exact (Array.getElem?_eq_some_iff.1 h).1
theorem IsCells.cell {w : World} {b : Nat} {cs : Array Value} (h : IsCells w b cs) (o : Nat) : w.cell? ⟨b, o, none⟩ = cs[o]? := by
 obtain ⟨T, h⟩ := h
 simp [World.cell?, h]
theorem IsCells.frozen {w : World} {b : Nat} {cs : Array Value} (h : IsCells w b cs) (o : Nat) : w.frozen? ⟨b, o, none⟩ = false := by
 obtain ⟨T, h⟩ := h
 simp [World.frozen?, h]
theorem IsCells.of_block {w w' : World} {b : Nat} {cs : Array Value} (h : IsCells w b cs) (hb : w'.heap[b]? = w.heap[b]?) : IsCells w' b cs := by
 obtain ⟨T, h⟩ := h
 exact ⟨T, hb.trans h⟩
theorem IsCells.alloc {w : World} {b : Nat} {cs : Array Value} (h : IsCells w b cs) (o : Obj) : IsCells (w.alloc o) b cs :=
 h.of_block (Below.heap_alloc _ _ _ h.lt)
theorem IsCells.other {w : World} {b : Nat} {cs : Array Value} (h : IsCells w b cs) {a : Addr} (hne : b ≠ a.block) (v : Value) : IsCells (w.setCell a v) b cs :=
 h.of_block (Below.heap_setCell _ _ _ _ hne)
theorem IsCells.set {w : World} {b : Nat} {cs : Array Value} (h : IsCells w b cs) (o : Nat) (v : Value) : IsCells (w.setCell ⟨b, o, none⟩ v) b (cs.setIfInBounds o v) := by
 obtain ⟨T, h⟩ := h
 refine ⟨T, ?_⟩
 simp [World.setCell, Array.getElem?_modify, h]
theorem isCells_new (w : World) (cs : Array Value) (T : TypeId) : IsCells (w.alloc (.cells cs T)) w.heap.size cs := ⟨T, heap_alloc_new w _⟩
structure Turn (A : Nat -> Prop) (w w' : World) : Prop where
 os : w'.os = w.os
 tape : w'.tape = w.tape
 output : w'.output = w.output
 size : w.heap.size <= w'.heap.size
 block : ∀ k, k < w.heap.size -> ¬ A k -> w'.heap[k]? = w.heap[k]?
theorem Turn.refl (A : Nat -> Prop) (w : World) : Turn A w w := ⟨rfl, rfl, rfl, Nat.le_refl _, fun _ _ _ => rfl⟩
theorem Turn.trans {A : Nat -> Prop} {a b c : World} (h : Turn A a b) (k : Turn A b c) : Turn A a c :=
 ⟨k.os.trans h.os, k.tape.trans h.tape, k.output.trans h.output, Nat.le_trans h.size k.size, fun i hi ha => (k.block i (Nat.lt_of_lt_of_le hi h.size) ha).trans (h.block i hi ha)⟩
theorem Turn.mono {A B : Nat -> Prop} {a b : World} (h : Turn A a b) (hAB : ∀ k, k < a.heap.size -> A k -> B k) : Turn B a b :=
 ⟨h.os, h.tape, h.output, h.size, fun i hi hb => h.block i hi (fun ha => hb (hAB i hi ha))⟩
theorem Turn.drew {A : Nat -> Prop} {a w : World} (h : Turn A a w) : Turn A a w.drew := ⟨h.os, h.tape, h.output, h.size, h.block⟩
theorem Turn.alloc {A : Nat -> Prop} {a w : World} (h : Turn A a w) (o : Obj) : Turn A a (w.alloc o) :=
 h.trans ⟨rfl, rfl, rfl, by simp, fun k hk _ => Below.heap_alloc _ _ _ hk⟩
theorem Turn.setCell {A : Nat -> Prop} {a w : World} (h : Turn A a w) {p : Addr} (hp : A p.block) (u : Value) : Turn A a (w.setCell p u) :=
 h.trans ⟨rfl, rfl, rfl, by simp [World.setCell], fun _ _ ha => Below.heap_setCell _ _ _ _ (fun e => ha (by rw [e]; exact hp))⟩
theorem Turn.setNew {A : Nat -> Prop} {a w : World} (h : Turn A a w) {p : Addr} (hp : a.heap.size <= p.block) (u : Value) : Turn A a (w.setCell p u) :=
 ⟨h.os, h.tape, h.output, Nat.le_trans h.size (by simp [World.setCell]), fun k hk ha => (Below.heap_setCell _ _ _ _ (by omega)).trans (h.block k hk ha)⟩
theorem Turn.below {A : Nat -> Prop} {B : Nat} {w w' : World} (h : Turn A w w') (hB : B <= w.heap.size) (hA : ∀ k, A k -> B <= k) : Below B w w' :=
 ⟨h.os, h.tape, h.output, h.size, fun k hk => h.block k (by omega) (fun ha => by have := hA k ha; omega)⟩
theorem Turn.then {A : Nat -> Prop} {a b c : World} (h : Turn A a b) {B : Nat} (k : Below B b c) (hB : a.heap.size <= B) : Turn A a c :=
 ⟨k.os.trans h.os, k.tape.trans h.tape, k.output.trans h.output, Nat.le_trans h.size k.size, fun i hi ha => (k.block i (by omega)).trans (h.block i hi ha)⟩
structure Nd (α : Type) where
 kind : Int
 name : ByteArray
 attrs : List (ByteArray × ByteArray)
 text : ByteArray
 kids : List α
def T : Nat -> Type
 | 0 => Empty
 | n + 1 => Nd (T n)
def AttrsAt (w : World) (lo hi : Nat) (a : Option Addr) (l : List (ByteArray × ByteArray)) : Prop :=
 ∀ i p, l[i]? = some p -> ∃ b o, a = some ⟨b, o, none⟩ /\ lo <= b /\ b < hi /\ w.cell? ⟨b, o + i * 2, none⟩ = some (.string p.1) /\ w.cell? ⟨b, o + i * 2 + 1, none⟩ = some (.string p.2)
def tv (k : Int) (nm : ByteArray) (a : Option Addr) (al ac : Nat) (tx : ByteArray) (ka : Option Addr) (kl kc : Nat) : Array Value :=
 #[.int .i64 k, .string nm, .slice a al ac, .string tx, .slice ka kl kc]
def maxA : Nat := 4398046511104
def maxK : Nat := 1599289640401
def TreeAt (w : World) (lo hi : Nat) : (n : Nat) -> Array Value -> T n -> Prop
 | 0, _, t => False
 | n + 1, v, t => ∃ (a : Option Addr) (ac : Nat) (ka : Option Addr) (kc : Nat), v = tv t.kind t.name a t.attrs.length ac t.text ka t.kids.length kc /\
   t.attrs.length <= maxA /\ t.kids.length <= maxK /\ t.attrs.length <= ac /\ t.kids.length <= kc /\ AttrsAt w lo hi a t.attrs /\
   ∀ i k, t.kids[i]? = some k -> ∃ (b o : Nat) (u : Array Value), ka = some ⟨b, o, none⟩ /\ lo <= b /\ b < hi /\ u.size = 5 /\ (∀ j, j < 5 -> w.cell? ⟨b, o + i * 5 + j, none⟩ = u[j]?) /\ TreeAt w lo hi n u k
theorem AttrsAt.of_cells {w w' : World} {lo hi : Nat} {a : Option Addr} {l : List (ByteArray × ByteArray)} (h : AttrsAt w lo hi a l) (hc : ∀ b o, lo <= b -> b < hi -> w'.cell? ⟨b, o, none⟩ = w.cell? ⟨b, o, none⟩) : AttrsAt w' lo hi a l := by
 intro i p hp
 obtain ⟨b, o, h1, h2, h3, h4, h5⟩ := h i p hp
 exact ⟨b, o, h1, h2, h3, (hc _ _ h2 h3).trans h4, (hc _ _ h2 h3).trans h5⟩
theorem TreeAt.of_cells {w w' : World} {lo hi : Nat} (hc : ∀ b o, lo <= b -> b < hi -> w'.cell? ⟨b, o, none⟩ = w.cell? ⟨b, o, none⟩) : ∀ {n : Nat} {v : Array Value} {t : T n}, TreeAt w lo hi n v t -> TreeAt w' lo hi n v t
 | 0, _, _, h => h.elim
 | n + 1, v, t, h => by
  obtain ⟨a, ac, ka, kc, h1, h2, h3, h4, h5, h6, h7⟩ := h
  refine ⟨a, ac, ka, kc, h1, h2, h3, h4, h5, h6.of_cells hc, fun i k hk => ?_⟩
  obtain ⟨b, o, u, g1, g2, g3, g4, g5, g6⟩ := h7 i k hk
  exact ⟨b, o, u, g1, g2, g3, g4, fun j hj => (hc _ _ g2 g3).trans (g5 j hj), TreeAt.of_cells hc g6⟩
theorem AttrsAt.mono {w : World} {lo hi lo' hi' : Nat} {a : Option Addr} {l : List (ByteArray × ByteArray)} (h : AttrsAt w lo hi a l) (h1 : lo' <= lo) (h2 : hi <= hi') : AttrsAt w lo' hi' a l := by
 intro i p hp
 obtain ⟨b, o, g1, g2, g3, g4, g5⟩ := h i p hp
 exact ⟨b, o, g1, by omega, by omega, g4, g5⟩
theorem TreeAt.mono {w : World} {lo hi lo' hi' : Nat} (h1 : lo' <= lo) (h2 : hi <= hi') : ∀ {n : Nat} {v : Array Value} {t : T n}, TreeAt w lo hi n v t -> TreeAt w lo' hi' n v t
 | 0, _, _, h => h.elim
 | n + 1, v, t, h => by
  obtain ⟨a, ac, ka, kc, g1, g2, g3, g4, g5, g6, g7⟩ := h
  refine ⟨a, ac, ka, kc, g1, g2, g3, g4, g5, g6.mono h1 h2, fun i k hk => ?_⟩
  obtain ⟨b, o, u, e1, e2, e3, e4, e5, e6⟩ := g7 i k hk
  exact ⟨b, o, u, e1, by omega, by omega, e4, e5, TreeAt.mono h1 h2 e6⟩
theorem TreeAt.below {w w' : World} {lo hi B n : Nat} {v : Array Value} {t : T n} (h : TreeAt w lo hi n v t) (hb : Below B w w') (hB : hi <= B) : TreeAt w' lo hi n v t :=
 h.of_cells (fun b o _ hb' => hb.cell (p := ⟨b, o, none⟩) (show b < B by omega))
theorem TreeAt.turn {w w' : World} {lo hi n : Nat} {v : Array Value} {t : T n} {A : Nat -> Prop} (h : TreeAt w lo hi n v t) (ht : Turn A w w') (hs : hi <= w.heap.size) (hA : ∀ k, lo <= k -> k < hi -> ¬ A k) : TreeAt w' lo hi n v t :=
 h.of_cells (fun b o hb1 hb2 => World.cell?_of_block (w := w) (a := ⟨b, o, none⟩) (ht.block b (by omega) (hA b hb1 hb2)))
def leB (a b : ByteArray) : Bool := Op.bytesLess a.toList b.toList || a.toList == b.toList
def attrsGo : Option ByteArray -> List (ByteArray × ByteArray) -> Int
 | _, [] => 0
 | prev, p :: r => if nameL p.1.data.toList = false \/ (∃ q, prev = some q /\ leB p.1 q = true) then 6 else if (tans p.2.data.toList).2 = 0 then attrsGo (some p.1) r else (tans p.2.data.toList).2
def attrsE (l : List (ByteArray × ByteArray)) : Int := if 32 < l.length then 2 else attrsGo none l
def ownE {α : Type} (t : Nd α) : Int :=
 if t.kind = 1 then (if nameL t.name.data.toList then attrsE t.attrs else 6) else if t.kind = 2 then (tans t.text.data.toList).2 else 1
def kidsT {α : Type} (t : Nd α) : List α := if t.kind = 1 then t.kids else []
def chkL {α : Type} (f : α -> Int -> Int × Int) : List α -> Int -> Int × Int
 | [], a => (a, 0)
 | k :: r, a => if (f k a).2 = 0 then chkL f r (f k a).1 else f k a
def chk : (n : Nat) -> T n -> Int -> Int -> Int × Int
 | 0, t, _, a => (a, 0)
 | n + 1, t, d, a => if 64 < d \/ 4096 <= a then (a, 2) else if ownE t = 0 then chkL (fun k x => chk n k (d + 1) x) (kidsT t) (a + 1) else (a, ownE t)
structure Bel (W : World) where
 w : World
 h : Below W.heap.size W w
theorem Bel.cell {W : World} (u : Bel W) (b o : Nat) (h : b < W.heap.size) : u.w.cell? ⟨b, o, none⟩ = W.cell? ⟨b, o, none⟩ := u.h.cell (p := ⟨b, o, none⟩) h
theorem Bel.fz {W : World} (u : Bel W) (b o : Nat) (h : b < W.heap.size) : u.w.frozen? ⟨b, o, none⟩ = W.frozen? ⟨b, o, none⟩ := u.h.frozen (p := ⟨b, o, none⟩) h
theorem wp_region_bel {P : Program} {id : Nat} {Q : Exit -> Act -> World -> Prop} {a : Act} {w : World} {l : List Oper} (hm : P.follows .mixedOrders = true) (hB : Region.lexB .any l.toArray = true)
  (h : Nonempty (Bel w) -> wpQuiet P l.toArray (fun w' => ∃ u : Bel w, w' = u.w) (fun a' => ∀ w', (∃ u : Bel w, w' = u.w) -> Q .normal a' w') l a) : (Code.region id l.toArray true).wp P Q a w :=
 wp_region_quiet (C := fun w' => ∃ u : Bel w, w' = u.w) hm hB ⟨⟨w.drew, (Below.refl _ _).drew⟩, rfl⟩ (by simpa using h ⟨⟨w, Below.refl _ _⟩⟩)
theorem Calls.bel_of {P : Program} {f : FuncId} {args : Array Value} {W : World} {u : Bel W} {v : Value}
  (h : Calls P f args u.w fun e w' => e = .returned v /\ Below u.w.heap.size u.w w') : Calls P f args u.w fun e w'' => e = .returned v /\ ∃ u' : Bel W, w'' = u'.w :=
 h.mono fun _ w' ⟨he, hm⟩ => ⟨he, ⟨w', u.h.trans (hm.mono u.h.size)⟩, rfl⟩
theorem Calls.bel_of_same {P : Program} {f : FuncId} {args : Array Value} {W : World} {u : Bel W} {v : Value}
  (h : Calls P f args u.w fun e w' => e = .returned v /\ w' = u.w) : Calls P f args u.w fun e w'' => e = .returned v /\ ∃ u' : Bel W, w'' = u'.w :=
 h.mono fun _ w' ⟨he, hm⟩ => ⟨he, u, hm⟩
theorem bcell {W w1 : World} {B : Nat} (hb : Below B W w1) : (∀ b o, b < B -> w1.cell? ⟨b, o, none⟩ = W.cell? ⟨b, o, none⟩) /\ (∀ b o, b < B -> w1.frozen? ⟨b, o, none⟩ = W.frozen? ⟨b, o, none⟩) :=
 ⟨fun b o h => hb.cell (p := ⟨b, o, none⟩) h, fun b o h => hb.frozen (p := ⟨b, o, none⟩) h⟩
attribute [local go_sem] Bel.cell Bel.fz
def prevAt (l : List (ByteArray × ByteArray)) (i : Nat) : Option ByteArray := if i = 0 then none else (l[i - 1]?).map (·.1)
theorem attrsGo_at {l : List (ByteArray × ByteArray)} {i : Nat} {p : ByteArray × ByteArray} (h : l[i]? = some p) :
  attrsGo (prevAt l i) (l.drop i) = if nameL p.1.data.toList = false \/ (∃ q, prevAt l i = some q /\ leB p.1 q = true) then 6 else if (tans p.2.data.toList).2 = 0 then attrsGo (prevAt l (i + 1)) (l.drop (i + 1)) else (tans p.2.data.toList).2 := by
 have hlt := (List.getElem?_eq_some_iff.1 h).1
 have e : l.drop i = p :: l.drop (i + 1) := by
  rw [List.drop_eq_getElem_cons hlt, (List.getElem?_eq_some_iff.1 h).2]
 have e2 : prevAt l (i + 1) = some p.1 := by simp [prevAt, h]
 rw [e, e2, attrsGo]
theorem attrs_long (w : World) (a : Option Addr) (n cap : Nat) (h : 32 < n) :
  Calls Try.prog 60 #[.slice a n cap] w fun e w' => e = .returned (.int .i64 2) /\ w' = w := by
 go_enter Try.func60, Try.ntmps60
 go_wp2
 go_ret
 exact ⟨rfl, rfl⟩
theorem bel_end {w wr : World} {o : Obj} (h : Below w.heap.size w wr) (u : Bel (wr.alloc o)) (hs : w.heap.size <= wr.heap.size) : Below w.heap.size w u.w :=
 (h.alloc hs o).trans (u.h.mono (by simp; omega))
theorem bel_size {w wr : World} {o : Obj} (h : Below w.heap.size w wr) (u : Bel (wr.alloc o)) : w.heap.size <= u.w.heap.size := by
 have h1 := h.size
 have h2 := u.h.size
 simp at h2
 omega
theorem attrs_walk (w : World) (lo : Nat) (a : Option Addr) (l : List (ByteArray × ByteArray)) (cap : Nat) (h : AttrsAt w lo w.heap.size a l) (hn : l.length <= 32) (x : Int) (hx : attrsGo none l = x) :
  Calls Try.prog 60 #[.slice a l.length cap] w fun e w' => e = .returned (.int .i64 x) /\ Below w.heap.size w w' := by
 have HX : Hid (attrsGo none l = x) := hx
 have HA : Hid (AttrsAt w lo w.heap.size a l) := h
 clear hx h
 go_enter Try.func60, Try.ntmps60
 go_wp2
 go_loopw [12] (fun v wr => ∃ i : Nat, i <= l.length /\ v = .int .i64 (i : Int) /\ Hid (attrsGo (prevAt l i) (l.drop i) = x) /\ Hid (Below w.heap.size w wr)) (fun v _ => l.length - (intOf v).toNat)
 case atStart => exact ⟨0, by omega, rfl, HX, Below.refl _ _⟩
 case round =>
  obtain ⟨i, hi, rfl, hgo, hbw⟩ := hrel
  have hws := hbw.out.size
  by_cases hlt : i < l.length
  ·obtain ⟨p, hp⟩ : ∃ p, l[i]? = some p := ⟨_, List.getElem?_eq_getElem hlt⟩
   obtain ⟨b, o, rfl, hlo, hbs, hc1, hc2⟩ := HA.out i p hp
   have hc1' : wr.cell? ⟨b, o + i * 2, none⟩ = some (.string p.1) := (hbw.out.cell (p := ⟨b, _, none⟩) hbs).trans hc1
   have hc2' : wr.cell? ⟨b, o + i * 2 + 1, none⟩ = some (.string p.2) := (hbw.out.cell (p := ⟨b, _, none⟩) hbs).trans hc2
   have hbr : b < wr.heap.size := by omega
   have hstep := attrsGo_at hp
   rw [hgo.out] at hstep
   have hnw := fun W => name_any W p.1
   have htw := fun W => text_any W p.2
   cases hnm : nameL p.1.data.toList
   ·rw [if_pos (.inl hnm)] at hstep
    rw [hnm] at hnw
    have HSX : Hid (x = 6) := hstep
    clear hstep hnm HX HA hgo hc1 hc2 hp
    go_wp2
    refine wp_region_bel (by kernel_rfl) (by kernel_rfl) ?_
    intro hne
    repeat go_big_quiet_step ((go_at_call 59; exact Calls.bel_of (hnw _)))
    refine wpQuiet_nil ?_
    rintro _ ⟨u, rfl⟩
    go_wp2
    go_ret
    exact ⟨congrArg _ (v_int HSX.out.symm), bel_end hbw.out u hws⟩
   ·rw [hnm] at hnw
    by_cases hi0 : i = 0
    ·have hnp : ¬ (nameL p.1.data.toList = false \/ ∃ q, prevAt l i = some q /\ leB p.1 q = true) := by
      rintro (h | ⟨q, hq, _⟩)
      ·rw [hnm] at h; cases h
      ·simp [prevAt, hi0] at hq
     rw [if_neg hnp] at hstep
     have hd : decide (0 < i) = false := by simp; omega
     have HI : Hid (i = 0) := hi0
     clear hnp hi0 hnm HX HA hgo hc1 hc2 hp
     generalize (tans p.2.data.toList).1 = y1 at *
     generalize (tans p.2.data.toList).2 = y2 at *
     by_cases hy : y2 = 0
     ·rw [if_pos hy] at hstep
      subst hy
      have HS : Hid (x = attrsGo (prevAt l (i + 1)) (l.drop (i + 1))) := hstep
      clear hstep
      go_wp2
      refine wp_region_bel (by kernel_rfl) (by kernel_rfl) ?_
      intro hne
      repeat go_big_quiet_step ((go_at_call 59; exact Calls.bel_of (hnw _)))
      refine wpQuiet_nil ?_
      rintro _ ⟨u, rfl⟩
      go_wp2_with fail
      refine (htw _).mono ?_
      rintro e w2 ⟨rfl, hb2⟩
      go_wp2
      go_roundw
      case rel => exact ⟨i + 1, by omega, by go_num, HS.out.symm, (bel_end hbw.out u hws).trans (hb2.mono (bel_size hbw.out u))⟩
      case measure => simp [intOf]; omega
     ·rw [if_neg hy] at hstep
      have hbn : (y2 == 0) = false := beq_eq_false_iff_ne.2 hy
      have HS : Hid (x = y2) := hstep
      have HY : Hid (¬ y2 = 0) := hy
      clear hstep hy
      go_wp2
      refine wp_region_bel (by kernel_rfl) (by kernel_rfl) ?_
      intro hne
      repeat go_big_quiet_step ((go_at_call 59; exact Calls.bel_of (hnw _)))
      refine wpQuiet_nil ?_
      rintro _ ⟨u, rfl⟩
      go_wp2_with fail
      refine (htw _).mono ?_
      rintro e w2 ⟨rfl, hb2⟩
      go_wp2
      go_ret
      exact ⟨congrArg _ (v_int HS.out.symm), (bel_end hbw.out u hws).trans (hb2.mono (bel_size hbw.out u))⟩
    ·obtain ⟨j, rfl⟩ : ∃ j, i = j + 1 := ⟨i - 1, by omega⟩
     obtain ⟨q, hq⟩ : ∃ q, l[j]? = some q := ⟨_, List.getElem?_eq_getElem (by omega)⟩
     obtain ⟨b', o', he, _, _, hq1, _⟩ := HA.out j q hq
     simp only [Option.some.injEq, Addr.mk.injEq, and_true] at he
     obtain ⟨rfl, rfl⟩ := he
     have hq1' : wr.cell? ⟨b, o + j * 2, none⟩ = some (.string q.1) := (hbw.out.cell (p := ⟨b, _, none⟩) hbs).trans hq1
     have hpv : prevAt l (j + 1) = some q.1 := by simp [prevAt, hq]
     have hi1 : ((j + 1 : Nat) : Int) - 1 = (j : Int) := by omega
     have hi2 : (j : Int) < ((l.length : Nat) : Int) := by omega
     have hd : decide ((0 : Int) < ((j + 1 : Nat) : Int)) = true := by simp
     cases hle : leB p.1 q.1
     ·have hnp : ¬ (nameL p.1.data.toList = false \/ ∃ q, prevAt l (j + 1) = some q /\ leB p.1 q = true) := by
       rintro (h | ⟨q', hq', h⟩)
       ·rw [hnm] at h; cases h
       ·rw [hpv] at hq'; cases hq'; rw [hle] at h; cases h
      rw [if_neg hnp] at hstep
      have hle' : (Op.bytesLess p.1.toList q.1.toList || p.1.toList == q.1.toList) = false := hle
      generalize hz : (Op.bytesLess p.1.toList q.1.toList || p.1.toList == q.1.toList) = z at hle'
      subst hle'
      clear hnp hnm HX HA hgo hc1 hc2 hp hq hq1 hpv hi0 hle
      generalize (tans p.2.data.toList).1 = y1 at *
      generalize (tans p.2.data.toList).2 = y2 at *
      by_cases hy : y2 = 0
      ·rw [if_pos hy] at hstep
       subst hy
       have HS : Hid (x = attrsGo (prevAt l (j + 1 + 1)) (l.drop (j + 1 + 1))) := hstep
       clear hstep
       go_wp2
       refine wp_region_bel (by kernel_rfl) (by kernel_rfl) ?_
       intro hne
       repeat go_big_quiet_step ((go_at_call 59; exact Calls.bel_of (hnw _)))
       refine wpQuiet_nil ?_
       rintro _ ⟨u, rfl⟩
       go_wp2_with fail
       refine (htw _).mono ?_
       rintro e w2 ⟨rfl, hb2⟩
       go_wp2
       go_roundw
       case rel => exact ⟨j + 1 + 1, by omega, by go_num, HS.out.symm, (bel_end hbw.out u hws).trans (hb2.mono (bel_size hbw.out u))⟩
       case measure => simp [intOf]; omega
      ·rw [if_neg hy] at hstep
       have hbn : (y2 == 0) = false := beq_eq_false_iff_ne.2 hy
       have HS : Hid (x = y2) := hstep
       have HY : Hid (¬ y2 = 0) := hy
       clear hstep hy
       go_wp2
       refine wp_region_bel (by kernel_rfl) (by kernel_rfl) ?_
       intro hne
       repeat go_big_quiet_step ((go_at_call 59; exact Calls.bel_of (hnw _)))
       refine wpQuiet_nil ?_
       rintro _ ⟨u, rfl⟩
       go_wp2_with fail
       refine (htw _).mono ?_
       rintro e w2 ⟨rfl, hb2⟩
       go_wp2
       go_ret
       exact ⟨congrArg _ (v_int HS.out.symm), (bel_end hbw.out u hws).trans (hb2.mono (bel_size hbw.out u))⟩
     ·rw [if_pos (.inr ⟨q.1, hpv, hle⟩)] at hstep
      have hle' : (Op.bytesLess p.1.toList q.1.toList || p.1.toList == q.1.toList) = true := hle
      have HSX : Hid (x = 6) := hstep
      clear hstep hnm HX HA hgo hc1 hc2 hp hq hq1 hpv hi0 hle
      go_wp2
      refine wp_region_bel (by kernel_rfl) (by kernel_rfl) ?_
      intro hne
      repeat go_big_quiet_step ((go_at_call 59; exact Calls.bel_of (hnw _)))
      refine wpQuiet_nil ?_
      rintro _ ⟨u, rfl⟩
      go_wp2
      go_ret
      exact ⟨congrArg _ (v_int HSX.out.symm), bel_end hbw.out u hws⟩
  ·have hfin : x = 0 := by
    rw [<- hgo.out, List.drop_eq_nil_of_le (by omega)]
    cases prevAt l i <;> rfl
   clear hgo HX HA
   go_wp2
   go_ret
   exact ⟨congrArg _ (v_int hfin.symm), hbw.out⟩
theorem bel_end0 {w wr : World} (h : Below w.heap.size w wr) (u : Bel wr) (hs : w.heap.size <= wr.heap.size) : Below w.heap.size w u.w :=
 h.trans (u.h.mono hs)
theorem bel_size0 {w wr : World} (h : Below w.heap.size w wr) (u : Bel wr) : w.heap.size <= u.w.heap.size := by
 have h1 := h.size
 have h2 := u.h.size
 omega
theorem rattrs_long (w : World) (a : Option Addr) (n cap : Nat) (h : 32 < n) :
  Calls Try.prog 57 #[.slice a n cap] w fun e w' => e = .returned (.int .i64 2) /\ w' = w := by
 go_enter Try.func57, Try.ntmps57
 go_wp2
 go_ret
 exact ⟨rfl, rfl⟩
theorem rattrs_walk (w : World) (lo : Nat) (a : Option Addr) (l : List (ByteArray × ByteArray)) (cap : Nat) (h : AttrsAt w lo w.heap.size a l) (hn : l.length <= 32) (x : Int) (hx : attrsGo none l = x) :
  Calls Try.prog 57 #[.slice a l.length cap] w fun e w' => e = .returned (.int .i64 x) /\ Below w.heap.size w w' := by
 have HX : Hid (attrsGo none l = x) := hx
 have HA : Hid (AttrsAt w lo w.heap.size a l) := h
 clear hx h
 go_enter Try.func57, Try.ntmps57
 go_wp2
 go_loopw [3] (fun v wr => ∃ i : Nat, i <= l.length /\ v = .int .i64 (i : Int) /\ Hid (attrsGo (prevAt l i) (l.drop i) = x) /\ Hid (Below w.heap.size w wr)) (fun v _ => l.length - (intOf v).toNat)
 case atStart => exact ⟨0, by omega, rfl, HX, Below.refl _ _⟩
 case round =>
  obtain ⟨i, hi, rfl, hgo, hbw⟩ := hrel
  have hws := hbw.out.size
  by_cases hlt : i < l.length
  ·obtain ⟨p, hp⟩ : ∃ p, l[i]? = some p := ⟨_, List.getElem?_eq_getElem hlt⟩
   obtain ⟨b, o, rfl, hlo, hbs, hc1, hc2⟩ := HA.out i p hp
   have hc1' : wr.cell? ⟨b, o + i * 2, none⟩ = some (.string p.1) := (hbw.out.cell (p := ⟨b, _, none⟩) hbs).trans hc1
   have hc2' : wr.cell? ⟨b, o + i * 2 + 1, none⟩ = some (.string p.2) := (hbw.out.cell (p := ⟨b, _, none⟩) hbs).trans hc2
   have hbr : b < wr.heap.size := by omega
   have hstep := attrsGo_at hp
   rw [hgo.out] at hstep
   have hnw := fun W => rname_any W p.1
   have htw := fun W => rtext_any W p.2
   cases hnm : nameL p.1.data.toList
   ·rw [if_pos (.inl hnm)] at hstep
    rw [hnm] at hnw
    have HSX : Hid (x = 6) := hstep
    clear hstep hnm HX HA hgo hc1 hc2 hp
    go_wp2
    refine wp_region_bel (by kernel_rfl) (by kernel_rfl) ?_
    intro hne
    repeat go_big_quiet_step ((go_at_call 56; exact Calls.bel_of_same (hnw _)))
    refine wpQuiet_nil ?_
    rintro _ ⟨u, rfl⟩
    go_wp2
    go_ret
    exact ⟨congrArg _ (v_int HSX.out.symm), bel_end0 hbw.out u hws⟩
   ·rw [hnm] at hnw
    by_cases hi0 : i = 0
    ·have hnp : ¬ (nameL p.1.data.toList = false \/ ∃ q, prevAt l i = some q /\ leB p.1 q = true) := by
      rintro (h | ⟨q, hq, _⟩)
      ·rw [hnm] at h; cases h
      ·simp [prevAt, hi0] at hq
     rw [if_neg hnp] at hstep
     have hd : decide (0 < i) = false := by simp; omega
     have HI : Hid (i = 0) := hi0
     clear hnp hi0 hnm HX HA hgo hc1 hc2 hp
     generalize (tans p.2.data.toList).1 = y1 at *
     generalize (tans p.2.data.toList).2 = y2 at *
     by_cases hy : y2 = 0
     ·rw [if_pos hy] at hstep
      subst hy
      have HS : Hid (x = attrsGo (prevAt l (i + 1)) (l.drop (i + 1))) := hstep
      clear hstep
      go_wp2
      refine wp_region_bel (by kernel_rfl) (by kernel_rfl) ?_
      intro hne
      repeat go_big_quiet_step ((go_at_call 56; exact Calls.bel_of_same (hnw _)))
      refine wpQuiet_nil ?_
      rintro _ ⟨u, rfl⟩
      go_wp2_with fail
      refine (htw _).mono ?_
      rintro e w2 ⟨rfl, hb2⟩
      go_wp2
      go_roundw
      case rel => exact ⟨i + 1, by omega, by go_num, HS.out.symm, (bel_end0 hbw.out u hws).trans (hb2.mono (bel_size0 hbw.out u))⟩
      case measure => simp [intOf]; omega
     ·rw [if_neg hy] at hstep
      have hbn : (y2 == 0) = false := beq_eq_false_iff_ne.2 hy
      have HS : Hid (x = y2) := hstep
      have HY : Hid (¬ y2 = 0) := hy
      clear hstep hy
      go_wp2
      refine wp_region_bel (by kernel_rfl) (by kernel_rfl) ?_
      intro hne
      repeat go_big_quiet_step ((go_at_call 56; exact Calls.bel_of_same (hnw _)))
      refine wpQuiet_nil ?_
      rintro _ ⟨u, rfl⟩
      go_wp2_with fail
      refine (htw _).mono ?_
      rintro e w2 ⟨rfl, hb2⟩
      go_wp2
      go_ret
      exact ⟨congrArg _ (v_int HS.out.symm), (bel_end0 hbw.out u hws).trans (hb2.mono (bel_size0 hbw.out u))⟩
    ·obtain ⟨j, rfl⟩ : ∃ j, i = j + 1 := ⟨i - 1, by omega⟩
     obtain ⟨q, hq⟩ : ∃ q, l[j]? = some q := ⟨_, List.getElem?_eq_getElem (by omega)⟩
     obtain ⟨b', o', he, _, _, hq1, _⟩ := HA.out j q hq
     simp only [Option.some.injEq, Addr.mk.injEq, and_true] at he
     obtain ⟨rfl, rfl⟩ := he
     have hq1' : wr.cell? ⟨b, o + j * 2, none⟩ = some (.string q.1) := (hbw.out.cell (p := ⟨b, _, none⟩) hbs).trans hq1
     have hpv : prevAt l (j + 1) = some q.1 := by simp [prevAt, hq]
     have hi1 : ((j + 1 : Nat) : Int) - 1 = (j : Int) := by omega
     have hi2 : (j : Int) < ((l.length : Nat) : Int) := by omega
     have hd : decide ((0 : Int) < ((j + 1 : Nat) : Int)) = true := by simp
     cases hle : leB p.1 q.1
     ·have hnp : ¬ (nameL p.1.data.toList = false \/ ∃ q, prevAt l (j + 1) = some q /\ leB p.1 q = true) := by
       rintro (h | ⟨q', hq', h⟩)
       ·rw [hnm] at h; cases h
       ·rw [hpv] at hq'; cases hq'; rw [hle] at h; cases h
      rw [if_neg hnp] at hstep
      have hle' : (Op.bytesLess p.1.toList q.1.toList || p.1.toList == q.1.toList) = false := hle
      generalize hz : (Op.bytesLess p.1.toList q.1.toList || p.1.toList == q.1.toList) = z at hle'
      subst hle'
      clear hnp hnm HX HA hgo hc1 hc2 hp hq hq1 hpv hi0 hle
      generalize (tans p.2.data.toList).1 = y1 at *
      generalize (tans p.2.data.toList).2 = y2 at *
      by_cases hy : y2 = 0
      ·rw [if_pos hy] at hstep
       subst hy
       have HS : Hid (x = attrsGo (prevAt l (j + 1 + 1)) (l.drop (j + 1 + 1))) := hstep
       clear hstep
       go_wp2
       refine wp_region_bel (by kernel_rfl) (by kernel_rfl) ?_
       intro hne
       repeat go_big_quiet_step ((go_at_call 56; exact Calls.bel_of_same (hnw _)))
       refine wpQuiet_nil ?_
       rintro _ ⟨u, rfl⟩
       go_wp2_with fail
       refine (htw _).mono ?_
       rintro e w2 ⟨rfl, hb2⟩
       go_wp2
       go_roundw
       case rel => exact ⟨j + 1 + 1, by omega, by go_num, HS.out.symm, (bel_end0 hbw.out u hws).trans (hb2.mono (bel_size0 hbw.out u))⟩
       case measure => simp [intOf]; omega
      ·rw [if_neg hy] at hstep
       have hbn : (y2 == 0) = false := beq_eq_false_iff_ne.2 hy
       have HS : Hid (x = y2) := hstep
       have HY : Hid (¬ y2 = 0) := hy
       clear hstep hy
       go_wp2
       refine wp_region_bel (by kernel_rfl) (by kernel_rfl) ?_
       intro hne
       repeat go_big_quiet_step ((go_at_call 56; exact Calls.bel_of_same (hnw _)))
       refine wpQuiet_nil ?_
       rintro _ ⟨u, rfl⟩
       go_wp2_with fail
       refine (htw _).mono ?_
       rintro e w2 ⟨rfl, hb2⟩
       go_wp2
       go_ret
       exact ⟨congrArg _ (v_int HS.out.symm), (bel_end0 hbw.out u hws).trans (hb2.mono (bel_size0 hbw.out u))⟩
     ·rw [if_pos (.inr ⟨q.1, hpv, hle⟩)] at hstep
      have hle' : (Op.bytesLess p.1.toList q.1.toList || p.1.toList == q.1.toList) = true := hle
      have HSX : Hid (x = 6) := hstep
      clear hstep hnm HX HA hgo hc1 hc2 hp hq hq1 hpv hi0 hle
      go_wp2
      refine wp_region_bel (by kernel_rfl) (by kernel_rfl) ?_
      intro hne
      repeat go_big_quiet_step ((go_at_call 56; exact Calls.bel_of_same (hnw _)))
      refine wpQuiet_nil ?_
      rintro _ ⟨u, rfl⟩
      go_wp2
      go_ret
      exact ⟨congrArg _ (v_int HSX.out.symm), bel_end0 hbw.out u hws⟩
  ·have hfin : x = 0 := by
    rw [<- hgo.out, List.drop_eq_nil_of_le (by omega)]
    cases prevAt l i <;> rfl
   clear hgo HX HA
   go_wp2
   go_ret
   exact ⟨congrArg _ (v_int hfin.symm), hbw.out⟩
theorem attrs_any (w : World) (lo : Nat) (a : Option Addr) (l : List (ByteArray × ByteArray)) (cap : Nat) (h : AttrsAt w lo w.heap.size a l) :
  Calls Try.prog 60 #[.slice a l.length cap] w fun e w' => e = .returned (.int .i64 (attrsE l)) /\ Below w.heap.size w w' := by
 by_cases hl : 32 < l.length
 ·rw [attrsE, if_pos hl]
  refine (attrs_long w a _ cap hl).mono ?_
  rintro e w' ⟨rfl, rfl⟩
  exact ⟨rfl, Below.refl _ _⟩
 ·rw [attrsE, if_neg hl]
  exact attrs_walk w lo a l cap h (by omega) _ rfl
theorem rattrs_any (w : World) (lo : Nat) (a : Option Addr) (l : List (ByteArray × ByteArray)) (cap : Nat) (h : AttrsAt w lo w.heap.size a l) :
  Calls Try.prog 57 #[.slice a l.length cap] w fun e w' => e = .returned (.int .i64 (attrsE l)) /\ Below w.heap.size w w' := by
 by_cases hl : 32 < l.length
 ·rw [attrsE, if_pos hl]
  refine (rattrs_long w a _ cap hl).mono ?_
  rintro e w' ⟨rfl, rfl⟩
  exact ⟨rfl, Below.refl _ _⟩
 ·rw [attrsE, if_neg hl]
  exact rattrs_walk w lo a l cap h (by omega) _ rfl
end Go.Proofs.Ytmapmkogjhinmaa
