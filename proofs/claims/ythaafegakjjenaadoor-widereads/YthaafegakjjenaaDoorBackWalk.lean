/-
  WideBack.
-/
import Derived.Test.YthaafegakjjenaaDoorWKnown
namespace Go.Proofs.YthaafegakjjenaaDoor
open Go.RowKit Wd

theorem txt_len {a : Int} (h : Is a) : (txt a).size ≤ 40 := by
  show (Lib.itoa a).toArray.size ≤ 40
  rw [List.size_toArray, itoa_abs]
  have hs := size_in h
  rw [size_nat] at hs
  have hl : (Lib.decDigits a.natAbs).length ≤ 39 := by
    rw [dec_len]
    exact nd_le (k := 38) (Nat.lt_of_le_of_lt (show a.natAbs ≤ 170141183460469231731687303715884105728 by omega) (by decide))
  split
  · simp; omega
  · omega
theorem rdN_txt {a : Int} (h : Is a) : rdN (txt a) = a := by
  unfold rdN
  show nrm (guessI (Lib.itoa a).toArray.toList) = a
  rw [List.toList_toArray, guess_itoa, nrm_of h]
theorem rdB_txt {a : Int} (h : Is a) : rdB (txt a) = true := by
  unfold rdB
  rw [rdN_txt h, decide_eq_true (txt_len h)]
  simp
theorem rdV_txt {a : Int} (h : Is a) : rdV (txt a) = a := by rw [rdV_yes (rdB_txt h), rdN_txt h]
theorem rdV_is (s : ByteArray) : Is (rdV s) := by
  unfold rdV
  split
  · exact nrm_is _
  · unfold Is; omega
theorem rd_same {s : ByteArray} (h : rdB s = true) : ((txt (rdV s)).toList == s.toList) = true := by
  rw [rdV_yes h]
  unfold rdB at h
  simp only [Bool.and_eq_true] at h
  exact h.2
end Go.Proofs.YthaafegakjjenaaDoor
