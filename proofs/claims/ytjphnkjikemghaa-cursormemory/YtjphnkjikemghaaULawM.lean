/-
  The law's sameTexts. (Written by mklaw7m.py.)
-/
import Derived.Test.YtjphnkjikemghaaUCells
import Derived.Test.YtjphnkjikemghaaULent
import Derived.Test.YtjphnkjikemghaaUStr
namespace Go.Proofs.Ytjphnkjikemghaa
open Go.RowKit Cu

theorem strs_cell {w : World} {a : Option Addr} {T : List ByteArray} (h : Strs w a T) {i : Nat} (hi : i < T.length) : ∃ g o, a = some ⟨g, o, none⟩ ∧ g < w.heap.size ∧ w.cell? ⟨g, o + i, none⟩ = some (.string T[i]) := h i _ (List.getElem?_eq_getElem hi)
theorem take_next {T U : List ByteArray} {i : Nat} (h : T.take i = U.take i) (hi : i < T.length) (hj : i < U.length) (e : T[i] = U[i]) : T.take (i + 1) = U.take (i + 1) := by
  rw [List.take_add_one, List.take_add_one, h, List.getElem?_eq_getElem hi, List.getElem?_eq_getElem hj, e]
set_option maxRecDepth 4000 in
set_option maxHeartbeats 2000000 in
theorem sameTexts_any (a b : Option Addr) (T U : List ByteArray) (c d : Nat) (w : World) (hT : Strs w a T) (hU : Strs w b U) (hl1 : T.length ≤ 140737488355328) (hl2 : U.length ≤ 140737488355328) :
    Calls Try.prog 18 #[.slice a T.length c, .slice b U.length d] w fun e w' => e = .returned (.bool (decide (T = U))) ∧ ∃ j, w' = w.drewN j := by
  have HT := hid hT
  have HU := hid hU
  clear hT hU
  by_cases hl : T.length = U.length
  · go_enter Try.func18, Try.ntmps18
    go_wp2_with fail
    go_loopw [5] (fun y wr => ∃ i m : Nat, i ≤ T.length ∧ y = .int .i64 (i : Int) ∧ Hid (T.take i = U.take i) ∧ wr = w.drewN m) (fun y _ => T.length - (intOf y).toNat)
    case atStart => exact ⟨0, 0, Nat.zero_le _, rfl, rfl, rfl⟩
    case round =>
      obtain ⟨i, m, hi, rfl, HE, rfl⟩ := hrel
      by_cases hlt : i < T.length
      · have hii : (i : Int) < (T.length : Int) := by omega
        obtain ⟨g1, o1, rfl, _, k1⟩ := strs_cell HT.out hlt
        obtain ⟨g2, o2, rfl, _, k2⟩ := strs_cell HU.out (show i < U.length by omega)
        by_cases heq : T[i] = U[i]
        · have HN := hid (take_next HE.out hlt (by omega) heq)
          rw [heq] at k1
          generalize U[i] = s at *
          clear heq
          go_wp2_with fail
          go_quiet (fail)
          go_wp2_with fail
          exact ⟨⟨i + 1, _, by omega, by go_num, HN, rfl⟩, by simp [intOf]; omega⟩
        · have HNE : Hid (decide (T = U) = false) := by
            show decide (T = U) = false
            rw [decide_eq_false_iff_not]
            intro e; subst e; exact heq rfl
          generalize T[i] = s at *
          generalize U[i] = t at *
          go_wp2_with fail
          go_quiet (fail)
          go_wp2_with fail
          · go_ret
            rw [HNE.out]
            exact ⟨rfl, m + nq, by simp⟩
          · exfalso
            rename_i hst
            rw [Go.ByteArray.toList_eq, Go.ByteArray.toList_eq] at hst
            exact heq (ByteArray.ext (Array.toList_inj.1 (by simpa using hst)))
      · obtain rfl : i = T.length := by omega
        have e : T = U := by
          have := HE.out
          rw [List.take_of_length_le (Nat.le_refl _), List.take_of_length_le (by omega)] at this
          exact this
        have HEQ := hid (decide_eq_true e)
        clear e
        go_wp2_with fail
        go_ret
        rw [HEQ.out]
        exact ⟨rfl, _, rfl⟩
  · have e : decide (T = U) = false := by rw [decide_eq_false_iff_not]; intro e; exact hl (by rw [e])
    have hne : ((T.length : Int) = (U.length : Int)) = False := by simp; omega
    rw [e]
    clear e
    go_enter Try.func18, Try.ntmps18
    go_wp2_with fail
    go_ret
    exact ⟨rfl, 0, rfl⟩
end Go.Proofs.Ytjphnkjikemghaa
