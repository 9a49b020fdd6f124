/-
  SameInts, awake.
-/
import Derived.Test.YtmcegcinccphbaaFVals
namespace Go.Proofs.Ytmcegcinccphbaa
open Go.ChangeShapes Go.WideShapes Go.ChangeAt Go.RowKit Fr

set_option maxRecDepth 4000 in
set_option maxHeartbeats 2000000 in
theorem sameInts_any (a b : Option Addr) (T U : List Int) (c d : Nat) (w : World) (hT : Ints w a T) (hU : Ints w b U) (hl1 : T.length ≤ 140737488355328) (hl2 : U.length ≤ 140737488355328) :
    Calls Try.prog 15 #[.slice a T.length c, .slice b U.length d] w fun e w' => e = .returned (.bool (decide (T = U))) ∧ ∃ j, w' = w.drewN j := by
  have HT := hid hT
  have HU := hid hU
  clear hT hU
  by_cases hl : T.length = U.length
  · have hne : ((T.length : Int) != (U.length : Int)) = false := by simp; omega
    go_enter Try.func15, Try.ntmps15
    go_wp2_with fail
    go_loopw [5] (fun y wr => ∃ i m : Nat, i ≤ T.length ∧ y = .int .i64 (i : Int) ∧ Hid (T.take i = U.take i) ∧ wr = w.drewN m) (fun y _ => T.length - (intOf y).toNat)
    case atStart => exact ⟨0, 0, Nat.zero_le _, rfl, rfl, rfl⟩
    case round =>
      obtain ⟨i, m, hi, rfl, HE, rfl⟩ := hrel
      by_cases hlt : i < T.length
      · have hii : (i : Int) < (T.length : Int) := by omega
        have hjj : (i : Int) < (U.length : Int) := by omega
        have hiu : i < U.length := by omega
        obtain ⟨g1, o1, rfl, _, k1⟩ := HT.out.cell1 hlt
        obtain ⟨g2, o2, rfl, _, k2⟩ := HU.out.cell1 hiu
        by_cases heq : T[i] = U[i]
        · have HN := hid (take_nextL HE.out hlt hiu heq)
          rw [heq] at k1
          generalize U[i] = s at *
          clear heq
          go_wp2_with fail
          go_quiet (fail)
          go_wp2_with fail
          exact ⟨⟨i + 1, _, by omega, by go_num, HN, rfl⟩, by simp [intOf]; omega⟩
        · have HNE : Hid (decide (T = U) = false) := by
            show decide (T = U) = false
            rw [decide_eq_false_iff_not]
            intro e; subst e; exact heq rfl
          generalize T[i] = x at *
          generalize U[i] = y at *
          have hd : (x != y) = true := by simpa using heq
          clear heq
          go_wp2_with fail
          go_quiet (fail)
          go_wp2_with fail
          go_ret
          rw [HNE.out]
          exact ⟨rfl, m + nq, by simp⟩
      · obtain rfl : i = T.length := by omega
        have e : T = U := by
          have := HE.out
          rw [List.take_of_length_le (Nat.le_refl _), List.take_of_length_le (by omega)] at this
          exact this
        have HEQ := hid (decide_eq_true e)
        clear e
        go_wp2_with fail
        go_ret
        rw [HEQ.out]
        exact ⟨rfl, _, rfl⟩
  · have e : decide (T = U) = false := by rw [decide_eq_false_iff_not]; intro e; exact hl (by rw [e])
    have hne : ((T.length : Int) != (U.length : Int)) = true := by simp; omega
    rw [e]
    clear e
    go_enter Try.func15, Try.ntmps15
    go_wp2_with fail
    go_ret
    exact ⟨rfl, 0, rfl⟩
theorem lit_ints (w : World) (o : Array Value) (l : List Int) (h : o = (l.map (Value.int .i64)).toArray) : Ints (w.alloc (.cells o 2)) (some ⟨w.heap.size, 0, none⟩) l := by
  subst h
  intro j x hj
  refine ⟨w.heap.size, 0, rfl, by simp, fun i u hu => ?_⟩
  have hi : i = 0 := by
    have := (List.getElem?_eq_some_iff.1 hu).1
    simp [one] at this; exact this
  subst hi
  simp [one] at hu
  subst hu
  rw [cell_of_row _ _ _ _ _ _ (heap_alloc_new w _)]
  simp [hj]
theorem aw1 : frameE [100, 103, 101] 2 = 0 ∧ frameR [100, 103, 101] 2 = [100, 0, 0, 0, 0, 0, 0, 0, 28] ∧ frameE [1, 3] 1 = 110 := by decide +kernel
theorem aw2 : ofE [100, 0, 0, 0, 0, 0, 0, 0, 28] 3 2 = 0 ∧ ofB [100, 0, 0, 0, 0, 0, 0, 0, 28] 3 2 = 100 ∧ ofR [100, 0, 0, 0, 0, 0, 0, 0, 28] 3 2 = [28] := by decide +kernel
theorem aw3 : valE 100 [28] 3 2 = 0 ∧ valR 100 [28] 3 2 = [100, 103, 101] := by decide +kernel
theorem aw4 : strL [100, 0, 0, 0, 0, 0, 0, 0, 28] = ⟨#[100, 0, 0, 0, 0, 0, 0, 0, 28]⟩ := by decide +kernel
set_option maxRecDepth 4000 in
set_option maxHeartbeats 2000000 in
theorem awake_yes (w : World) : Calls Try.prog 7 #[] w fun e w' => e = .returned (.bool true) ∧ Below w.heap.size w w' := by
  have H1 : Hid (∀ wx : World, Calls Try.prog 10 #[.slice (some ⟨wx.heap.size, 0, none⟩) 3 3, .int .i64 2] (wx.alloc (.cells #[.int .i64 100, .int .i64 103, .int .i64 101] 2)) fun e w' => ∃ v, e = .returned (.tuple #[v, .int .i64 0]) ∧ NewL wx w' v [100, 0, 0, 0, 0, 0, 0, 0, 28]) := fun wx => by
    have h := putFrame_any (some ⟨wx.heap.size, 0, none⟩) [100, 103, 101] 3 2 _ (lit_ints wx #[.int .i64 100, .int .i64 103, .int .i64 101] [100, 103, 101] rfl) (by simp) (by unfold In; intro x hx; simp at hx; omega)
    rw [aw1.1, aw1.2.1] at h
    refine h.mono ?_
    rintro e w' ⟨v, rfl, hn⟩
    exact ⟨v, rfl, hn.up (below_new wx _)⟩
  have H2 : Hid (∀ wx : World, Calls Try.prog 10 #[.slice (some ⟨wx.heap.size, 0, none⟩) 2 2, .int .i64 1] (wx.alloc (.cells #[.int .i64 1, .int .i64 3] 2)) fun e w' => ∃ v, e = .returned (.tuple #[v, .int .i64 110]) ∧ Below wx.heap.size wx w') := fun wx => by
    have h := putFrame_any (some ⟨wx.heap.size, 0, none⟩) [1, 3] 2 1 _ (lit_ints wx #[.int .i64 1, .int .i64 3] [1, 3] rfl) (by simp) (by unfold In; intro x hx; simp at hx; omega)
    rw [aw1.2.2] at h
    refine h.mono ?_
    rintro e w' ⟨v, rfl, hn⟩
    exact ⟨v, rfl, below_up (below_new wx _) hn.2⟩
  have H3 : Hid (∀ (wx : World) a c, Bytes wx a [100, 0, 0, 0, 0, 0, 0, 0, 28] → 9 ≤ c → c ≤ maxLen → Calls Try.prog 12 #[.slice a 9 c, .int .i64 3, .int .i64 2] wx fun e w' => ∃ v, e = .returned (.tuple #[.int .i64 100, v, .int .i64 0]) ∧ CutL wx w' v [100, 0, 0, 0, 0, 0, 0, 0, 28] [28]) := fun wx a c ha h9 hc => by
    have h := openFrame_any a [100, 0, 0, 0, 0, 0, 0, 0, 28] c 3 2 wx ha (by decide) (by simp) h9 (by simp only [maxLen] at hc; omega) (fun h => by subst h; obtain ⟨g, o, e, _⟩ := ha 0 (by simp); cases e)
    rw [aw2.1, aw2.2.1, aw2.2.2] at h
    exact h
  have H4 : Hid (∀ (wx : World) a c, Bytes wx a [28] → 1 ≤ c → c ≤ maxLen → Calls Try.prog 13 #[.int .i64 100, .slice a 1 c, .int .i64 3, .int .i64 2] wx fun e w' => ∃ v, e = .returned (.tuple #[v, .int .i64 0]) ∧ IAns wx w' v [100, 103, 101]) := fun wx a c ha h9 hc => by
    have h := values_any 100 a [28] c 3 2 wx ha (by decide) h9 (by simp only [maxLen] at hc; omega) (by unfold In; omega)
    rw [aw3.1, aw3.2] at h
    exact h
  go_enter Try.func7, Try.ntmps7
  go_wp2_with fail
  refine (H1.out _).mono ?_
  rintro e w1 ⟨v, rfl, hn⟩
  obtain ⟨a1, c1, rfl, hc1, hm1, _⟩ := hn.1.form
  have hb1 : Bytes w1 a1 [100, 0, 0, 0, 0, 0, 0, 0, 28] := hn.1.nums
  have B1 := hid hn.2
  have hc1' : 9 ≤ c1 := hc1
  have P1 := hid hb1
  clear hn hc1 H1
  go_wp2_with fail
  refine (H3.out _ a1 c1 P1.out hc1' hm1).mono ?_
  rintro e w2 ⟨v, rfl, hcut⟩
  obtain ⟨a2, c2, rfl, hc2, hm2, _, hb2⟩ := hcut.form
  have B2 := hid (below_up B1.out hcut.1)
  have P1b := hid (P1.out.later hcut.1)
  have P2 := hid hb2
  have hc2' : 1 ≤ c2 := hc2
  have hm2' : c2 ≤ maxLen := by simp only [maxLen]; omega
  clear hcut hc2 hm2 H3 hb1 hb2 P1 B1
  go_wp2_with fail
  refine (H4.out _ a2 c2 P2.out hc2' hm2').mono ?_
  rintro e w3 ⟨v, rfl, hiv, hB3⟩
  obtain ⟨a3, c3, rfl, _, _, _, hl3, _⟩ := hiv.form (one_len _)
  have B3 := hid (below_up B2.out hB3)
  have P1c := hid (P1b.out.later hB3)
  have L3 := hid hl3
  clear hiv hB3 H4 hl3 P1b B2 P2
  go_wp2_with fail
  refine (H2.out _).mono ?_
  rintro e w4 ⟨v, rfl, hB4⟩
  have B4 := hid (below_up B3.out hB4)
  have P1d := hid (P1c.out.later hB4)
  have L4 := hid (L3.out.later hB4)
  clear hB4 H2 L3 P1c B3
  have hs : (convert 26 9 (.slice a1 9 c1)).run Try.prog w4 = .ok (.string ⟨#[100, 0, 0, 0, 0, 0, 0, 0, 28]⟩) w4 := by
    rw [← aw4]; exact run_strL c1 P1d.out
  have HSI := hid (sameInts_any a3 (some ⟨w4.heap.size, 0, none⟩) [100, 103, 101] [100, 103, 101] c3 3 (w4.alloc (.cells #[.int .i64 100, .int .i64 103, .int .i64 101] 2)) (L4.out.later (below_new _ _)) (lit_ints w4 _ _ rfl) (by simp) (by simp))
  go_wp2_with (first | (go_at_call 11; refine (Pk.num_any _ _).mono ?_; rintro e w' ⟨rfl, rfl⟩) | (go_at_call 15; refine HSI.out.mono ?_; rintro e w5 ⟨rfl, j5, rfl⟩))
  go_ret
  exact ⟨by simp, below_drewN (below_up B4.out (below_new _ _)) _⟩
end Go.Proofs.Ytmcegcinccphbaa
