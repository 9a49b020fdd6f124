/-
  WideBack.
-/
import Derived.Test.YtbhcdabhjfpoeaaDoorWKnown
namespace Go.Proofs.YtbhcdabhjfpoeaaDoor
open Go.RowKit Wd

theorem txt_len {a : Int} (h : Is a) : (txt a).size ≤ 40 := by
  show (Lib.itoa a).toArray.size ≤ 40
  rw [List.size_toArray, itoa_abs]
  have hs := size_in h
  rw [size_nat] at hs
  have hl : (Lib.decDigits a.natAbs).length ≤ 39 := by
    rw [dec_len]
    exact nd_le (k := 38) (Nat.lt_of_le_of_lt (show a.natAbs ≤ 170141183460469231731687303715884105728 by omega) (by decide))
  split
  · simp; omega
  · omega
theorem rdN_txt {a : Int} (h : Is a) : rdN (txt a) = a := by
  unfold rdN
  show nrm (guessI (Lib.itoa a).toArray.toList) = a
  rw [List.toList_toArray, guess_itoa, nrm_of h]
theorem rdB_txt {a : Int} (h : Is a) : rdB (txt a) = true := by
  unfold rdB
  rw [rdN_txt h, decide_eq_true (txt_len h)]
  simp
theorem rdV_txt {a : Int} (h : Is a) : rdV (txt a) = a := by rw [rdV_yes (rdB_txt h), rdN_txt h]
theorem rdV_is (s : ByteArray) : Is (rdV s) := by
  unfold rdV
  split
  · exact nrm_is _
  · unfold Is; omega
theorem rd_same {s : ByteArray} (h : rdB s = true) : ((txt (rdV s)).toList == s.toList) = true := by
  rw [rdV_yes h]
  unfold rdB at h
  simp only [Bool.and_eq_true] at h
  exact h.2
set_option maxRecDepth 8000 in
set_option maxHeartbeats 4000000 in
theorem back_walk (a : Int) (s : ByteArray) (ha : Is a) (hs : s.size ≤ 9223372036854775807) (w : World) (ht : Tb w) : Calls Tryd.prog 5 #[.agg #[.int .i64 (hi (a)), .int .u64 (lo (a))], .string s] w fun e w' => e = .returned (.bool true) ∧ Below w.heap.size w w' := by
  have CT := hid fun W hW => text_any a ha W hW
  have CR1 := hid fun W hW => read_any (txt a) (Nat.le_trans (txt_len ha) (by decide)) W hW
  rw [rdV_txt ha, rdB_txt ha] at CR1
  have CR2 := hid fun W hW => read_any s hs W hW
  have CT2 := hid fun W hW => text_any (rdV s) (rdV_is s) W hW
  have HS := hid (@rd_same s)
  have HN := hid (@rdV_no s)
  have HT := hid ht
  clear ht hs ha
  cases hB : rdB s
  · rw [HN.out hB, hB, hi0, lo0] at CR2
    clear HN HS CT2 hB
    generalize txt a = T at *
    generalize hi a = h1 at *
    generalize lo a = l1 at *
    go_enter Tryd.func5, Tryd.ntmps5
    go_wp2_with fail
    obtain ⟨w1, hw1⟩ : ∃ w1, w.alloc (.cells #[.int .i64 h1, .int .u64 l1] 24) = w1 := ⟨_, rfl⟩
    rw [hw1]
    have b1 : Below w.heap.size w w1 := by rw [← hw1]; exact below_new _ _
    have X1 : Bw w1 w.heap.size h1 l1 := by rw [← hw1]; exact Bw.new _ _ _
    clear hw1
    refine (CT.out _ (HT.out.later b1)).mono ?_
    rintro e w2 ⟨rfl, b2⟩
    have b12 := below_up b1 b2
    go_wp2_with fail
    refine (CR1.out _ (HT.out.later b12)).mono ?_
    rintro e w3 ⟨rfl, b3⟩
    have b13 := below_up b12 b3
    go_wp2_with fail
    have b14 := below_up b13 (below_new w3 (.cells #[.int .i64 h1, .int .u64 l1] 24))
    refine (CR2.out _ (HT.out.later b14)).mono ?_
    rintro e w5 ⟨rfl, b5⟩
    have b15 := below_up b14 b5
    have X5 := X1.later (below_up (below_up b2 (below_up b3 (below_new w3 (.cells #[.int .i64 h1, .int .u64 l1] 24)))) b5)
    have Y5 := (Bw.new w3 h1 l1).later b5
    go_wp2_with fail
    have b16 := below_up b15 (below_new w5 (.cells #[.int .i64 0, .int .u64 0] 24))
    refine (known_any _ (HT.out.later b16)).mono ?_
    rintro e w7 ⟨rfl, b7⟩
    have X7 := (X5.later (below_new w5 (.cells #[.int .i64 0, .int .u64 0] 24))).later b7
    have Y7 := (Y5.later (below_new w5 (.cells #[.int .i64 0, .int .u64 0] 24))).later b7
    have Z7 := (Bw.new w5 0 0).later b7
    have B7 := hid (below_up b16 b7)
    have c0 := X7.hi
    have c1 := X7.lo
    have c2 := Y7.hi
    have c3 := Y7.lo
    have c4 := Z7.hi
    have c5 := Z7.lo
    clear b1 b2 b3 b5 b7 b12 b13 b14 b15 b16 X1 X5 X7 Y5 Y7 Z7
    go_wp2_with fail
    go_ret
    exact ⟨rfl, B7.out⟩
  · have hS := HS.out hB
    rw [hB] at CR2
    clear HN HS hB
    generalize txt a = T at *
    generalize txt (rdV s) = T2 at *
    generalize hi a = h1 at *
    generalize lo a = l1 at *
    generalize hi (rdV s) = h2 at *
    generalize lo (rdV s) = l2 at *
    go_enter Tryd.func5, Tryd.ntmps5
    go_wp2_with fail
    obtain ⟨w1, hw1⟩ : ∃ w1, w.alloc (.cells #[.int .i64 h1, .int .u64 l1] 24) = w1 := ⟨_, rfl⟩
    rw [hw1]
    have b1 : Below w.heap.size w w1 := by rw [← hw1]; exact below_new _ _
    have X1 : Bw w1 w.heap.size h1 l1 := by rw [← hw1]; exact Bw.new _ _ _
    clear hw1
    refine (CT.out _ (HT.out.later b1)).mono ?_
    rintro e w2 ⟨rfl, b2⟩
    have b12 := below_up b1 b2
    go_wp2_with fail
    refine (CR1.out _ (HT.out.later b12)).mono ?_
    rintro e w3 ⟨rfl, b3⟩
    have b13 := below_up b12 b3
    go_wp2_with fail
    have b14 := below_up b13 (below_new w3 (.cells #[.int .i64 h1, .int .u64 l1] 24))
    refine (CR2.out _ (HT.out.later b14)).mono ?_
    rintro e w5 ⟨rfl, b5⟩
    have b15 := below_up b14 b5
    have X5 := X1.later (below_up (below_up b2 (below_up b3 (below_new w3 (.cells #[.int .i64 h1, .int .u64 l1] 24)))) b5)
    have Y5 := (Bw.new w3 h1 l1).later b5
    go_wp2_with fail
    have b16 := below_up b15 (below_new w5 (.cells #[.int .i64 h2, .int .u64 l2] 24))
    refine (known_any _ (HT.out.later b16)).mono ?_
    rintro e w7 ⟨rfl, b7⟩
    have X7 := (X5.later (below_new w5 (.cells #[.int .i64 h2, .int .u64 l2] 24))).later b7
    have Y7 := (Y5.later (below_new w5 (.cells #[.int .i64 h2, .int .u64 l2] 24))).later b7
    have Z7 := (Bw.new w5 h2 l2).later b7
    have B7 := hid (below_up b16 b7)
    have c0 := X7.hi
    have c1 := X7.lo
    have c2 := Y7.hi
    have c3 := Y7.lo
    have c4 := Z7.hi
    have c5 := Z7.lo
    clear b1 b2 b3 b5 b7 b12 b13 b14 b15 b16 X1 X5 X7 Y5 Y7 Z7
    go_wp2_with fail
    refine (CT2.out _ (HT.out.later B7.out)).mono ?_
    rintro e w8 ⟨rfl, b8⟩
    go_wp2_with fail
    go_ret
    exact ⟨rfl, below_up B7.out b8⟩
end Go.Proofs.YtbhcdabhjfpoeaaDoor
