/-
  THE WALK OF LanesEmpty.
-/
import Derived.Test.YtoephmcmmbhnaabLKnown
import Derived.Test.YtoephmcmmbhnaabLRefP
import Derived.Test.YtoephmcmmbhnaabLBet
import Derived.Test.YtoephmcmmbhnaabLSum
import Derived.Test.YtoephmcmmbhnaabLStruct
namespace Go.Proofs.Ytoephmcmmbhnaab
open Go.RowKit Ln

theorem cnt_whole (b : Bool) : ∀ m n, m ≤ n → Bt.cnt (fun i => decide (i < n) && b) m = if b = true then m else 0
  | 0, _, _ => by cases b <;> rfl
  | m + 1, n, h => by
    rw [Bt.cnt, cnt_whole b m n (by omega)]
    cases b <;> simp; omega
theorem empty_E (n : Int) : pfE 0 (fun _ => 0) 0 n = if n < 0 then 2 else if 16777216 < n then 3 else 0 := by
  have hz : wordZ (bitB (fun _ => 0)) ((0 : Nat) : Int) = 0 := (tail_zero (nb := 0) (fun _ _ => rfl) (by omega)).2 (fun t _ h => by omega)
  have hb : byteN n 0 = 0 := by unfold byteN; split <;> simp
  have hi : isWidth 0 = true := rfl
  unfold pfE
  rw [hb, hi, Int.mul_zero]
  unfold byteE
  rw [hi]
  by_cases h1 : n < 0
  · simp [h1]
  · by_cases h2 : 16777216 < n
    · simp [h1, h2]
    · simp [h1, h2]
      simpa using hz

set_option maxHeartbeats 2000000 in
set_option maxRecDepth 20000 in
theorem walk_lanesEmpty (w : World) (n cc : Int) (_hn : -9223372036854775808 ≤ n ∧ n ≤ 9223372036854775807) (hcc : 0 ≤ cc ∧ cc < ((18446744073709551616 : Nat) : Int)) :
    Calls Try.prog 4 #[.int .i64 n, .int .u64 cc] w fun e w' => e = .returned (.bool true) ∧ Below w.heap.size w w' := by
  obtain ⟨x, rfl⟩ : ∃ v : Nat, cc = (v : Int) := ⟨cc.toNat, by omega⟩
  have hx : x < 18446744073709551616 := by omega
  have hP : ∀ W, PArg W none 0 0 (fun _ => 0) := fun W => ⟨by omega, by omega, by omega, fun _ => by omega, fun _ _ => rfl, fun j hj => by omega⟩
  have HK : Hid (∀ W, Calls Try.prog 9 #[] W fun e w' => e = .returned (.bool true) ∧ Below W.heap.size W w') := fun W => known_yes W
  have HT : Hid (∀ W, Calls Try.prog 16 #[.slice none 0 0, .int .i64 0, .int .i64 n, .int .i64 3, .int .u64 (x : Int)] W (SetAns W (tE 0 (fun _ => 0) 0 n 3) n.toNat (fun i => standsB 3 (laneOf (bitB (fun _ => 0)) (0 : Int).toNat i) x))) := fun W => Test_any none 0 0 _ 0 n 3 x W (hP W) hx
  have HB : Hid (∀ W, Calls Try.prog 17 #[.slice none 0 0, .int .i64 0, .int .i64 n, .int .u64 0, .int .u64 (x : Int)] W (SetAns W (pfE 0 (fun _ => 0) 0 n) n.toNat (fun i => betB 0 x (laneOf (bitB (fun _ => 0)) (0 : Int).toNat i)))) := fun W => Between_any none 0 0 _ 0 n 0 x W (hP W) (by omega)
  have HS : Hid (∀ W, Calls Try.prog 12 #[.slice none 0 0, .int .i64 0, .int .i64 n] W fun e w' => e = .returned (.tuple #[.int .u64 0, .int .u64 0, .int .i64 (pfE 0 (fun _ => 0) 0 n)]) ∧ Below W.heap.size W w') := fun W => by
    have := Sum_any none 0 0 (fun _ => 0) 0 n W (hP W)
    have e1 : sumH (laneOf (bitB (fun _ => 0)) (0 : Int).toNat) n.toNat = 0 := by show sumH (laneOf (bitB (fun _ => 0)) 0) n.toNat = 0; unfold sumH; rw [sum_none]
    have e2 : sumL (laneOf (bitB (fun _ => 0)) (0 : Int).toNat) n.toNat = 0 := by show sumL (laneOf (bitB (fun _ => 0)) 0) n.toNat = 0; unfold sumL; rw [sum_none]
    rw [e1, e2, ite_self] at this
    exact this
  have ht : tE 0 (fun _ => 0) 0 n 3 = pfE 0 (fun _ => 0) 0 n := by
    unfold tE
    by_cases h : pfE 0 (fun _ => 0) 0 n = 0
    · simp [h]
    · simp [h]
  rw [ht] at HT
  clear ht hP
  rw [empty_E] at HT HB HS
  by_cases h1 : n < 0
  · rw [if_pos h1] at HT HB HS
    have HT2 : Hid (∀ W, Calls Try.prog 16 #[.slice none 0 0, .int .i64 0, .int .i64 n, .int .i64 3, .int .u64 (x : Int)] W fun e w' => e = .returned (.tuple #[.pointer none, .int .i64 2]) ∧ Below W.heap.size W w') := fun W => (HT.out W).mono fun e w' ⟨h2, h3⟩ => by
      rcases h3 with ⟨_, h4⟩ | ⟨h4, _⟩
      · exact ⟨h4, h2⟩
      · omega
    have HB2 : Hid (∀ W, Calls Try.prog 17 #[.slice none 0 0, .int .i64 0, .int .i64 n, .int .u64 0, .int .u64 (x : Int)] W fun e w' => e = .returned (.tuple #[.pointer none, .int .i64 2]) ∧ Below W.heap.size W w') := fun W => (HB.out W).mono fun e w' ⟨h2, h3⟩ => by
      rcases h3 with ⟨_, h4⟩ | ⟨h4, _⟩
      · exact ⟨h4, h2⟩
      · omega
    clear HT HB
    go_enter Try.func4, Try.ntmps4
    go_wp2_with (first
      | (go_at_call 9; refine (HK.out _).mono ?_; rintro e w1 ⟨rfl, hb1⟩)
      | (go_at_call 16; refine (HT2.out _).mono ?_; rintro e w2 ⟨rfl, hb2⟩)
      | (go_at_call 17; refine (HB2.out _).mono ?_; rintro e w3 ⟨rfl, hb3⟩)
      | (go_at_call 12; refine (HS.out _).mono ?_; rintro e w4 ⟨rfl, hb4⟩))
    go_ret
    exact ⟨rfl, below_on (below_on (below_on hb1 hb2) hb3) hb4⟩
  · rw [if_neg h1] at HT HB HS
    by_cases h2 : 16777216 < n
    · rw [if_pos h2] at HT HB HS
      have HT2 : Hid (∀ W, Calls Try.prog 16 #[.slice none 0 0, .int .i64 0, .int .i64 n, .int .i64 3, .int .u64 (x : Int)] W fun e w' => e = .returned (.tuple #[.pointer none, .int .i64 3]) ∧ Below W.heap.size W w') := fun W => (HT.out W).mono fun e w' ⟨h2, h3⟩ => by
        rcases h3 with ⟨_, h4⟩ | ⟨h4, _⟩
        · exact ⟨h4, h2⟩
        · omega
      have HB2 : Hid (∀ W, Calls Try.prog 17 #[.slice none 0 0, .int .i64 0, .int .i64 n, .int .u64 0, .int .u64 (x : Int)] W fun e w' => e = .returned (.tuple #[.pointer none, .int .i64 3]) ∧ Below W.heap.size W w') := fun W => (HB.out W).mono fun e w' ⟨h2, h3⟩ => by
        rcases h3 with ⟨_, h4⟩ | ⟨h4, _⟩
        · exact ⟨h4, h2⟩
        · omega
      clear HT HB
      go_enter Try.func4, Try.ntmps4
      go_wp2_with (first
        | (go_at_call 9; refine (HK.out _).mono ?_; rintro e w1 ⟨rfl, hb1⟩)
        | (go_at_call 16; refine (HT2.out _).mono ?_; rintro e w2 ⟨rfl, hb2⟩)
        | (go_at_call 17; refine (HB2.out _).mono ?_; rintro e w3 ⟨rfl, hb3⟩)
        | (go_at_call 12; refine (HS.out _).mono ?_; rintro e w4 ⟨rfl, hb4⟩))
      go_ret
      exact ⟨rfl, below_on (below_on (below_on hb1 hb2) hb3) hb4⟩
    · rw [if_neg h2] at HT HB HS
      obtain ⟨m, rfl⟩ : ∃ m : Nat, n = (m : Int) := ⟨n.toNat, by omega⟩
      have hm : m ≤ 16777216 := by omega
      obtain ⟨bx, hbx⟩ : ∃ bx, decide (0 < x) = bx := ⟨_, rfl⟩
      have HT2 : Hid (∀ W, Calls Try.prog 16 #[.slice none 0 0, .int .i64 0, .int .i64 (m : Int), .int .i64 3, .int .u64 (x : Int)] W fun e w' => ∃ d, e = .returned (.tuple #[.pointer (some ⟨d, 0, none⟩), .int .i64 0]) ∧ Bt.SetF w' d m (fun i => decide (i < m) && bx) ∧ Below W.heap.size W w') := fun W => (HT.out W).mono fun e w' ⟨h2, h3⟩ => by
        rcases h3 with ⟨h4, _⟩ | ⟨_, d, g, h4, _, _, h5⟩
        · exact absurd rfl h4
        · refine ⟨d, h4, ?_, h2⟩
          have h6 := h5.is
          have e : (fun i => decide (i < (m : Int).toNat) && standsB 3 (laneOf (bitB (fun _ => 0)) (0 : Int).toNat i) x) = fun i => decide (i < m) && bx := by
            funext i
            rw [← hbx]
            have : laneOf (bitB (fun _ => 0)) (0 : Int).toNat i = 0 := rfl
            rw [this]
            rfl
          rw [e] at h6
          exact h6
      have HB2 : Hid (∀ W, Calls Try.prog 17 #[.slice none 0 0, .int .i64 0, .int .i64 (m : Int), .int .u64 0, .int .u64 (x : Int)] W fun e w' => ∃ d, e = .returned (.tuple #[.pointer (some ⟨d, 0, none⟩), .int .i64 0]) ∧ Bt.SetF w' d m (fun i => decide (i < m) && true) ∧ Below W.heap.size W w') := fun W => (HB.out W).mono fun e w' ⟨h2, h3⟩ => by
        rcases h3 with ⟨h4, _⟩ | ⟨_, d, g, h4, _, _, h5⟩
        · exact absurd rfl h4
        · refine ⟨d, h4, ?_, h2⟩
          have h6 := h5.is
          have e : (fun i => decide (i < (m : Int).toNat) && betB 0 x (laneOf (bitB (fun _ => 0)) (0 : Int).toNat i)) = fun i => decide (i < m) && true := by
            funext i
            have : laneOf (bitB (fun _ => 0)) (0 : Int).toNat i = 0 := rfl
            rw [this]
            simp [betB]
          rw [e] at h6
          exact h6
      have HL : Hid (∀ (d : Nat) (f : Nat → Bool) W, Bt.SetF W d m f → Calls Try.prog 18 #[.pointer (some ⟨d, 0, none⟩)] W fun e w' => e = .returned (.int .i64 (m : Int)) ∧ w' = W) := fun d f W h => Bt.len_set d m _ W h
      have HC : Hid (∀ (d : Nat) (b : Bool) W, Bt.SetF W d m (fun i => decide (i < m) && b) → Calls Try.prog 19 #[.pointer (some ⟨d, 0, none⟩)] W fun e w' => e = .returned (.int .i64 ((if b = true then m else 0 : Nat) : Int)) ∧ w' = W) := fun d b W h => by
        have := Bt.count_any d m _ W h hm (fun i hi => by simp; omega)
        rwa [cnt_whole b m m (Nat.le_refl _)] at this
      have hdx : ((x : Int) == 0) = !bx := by
        rw [← hbx]
        by_cases h0 : x = 0
        · subst h0; rfl
        · simp [h0, show 0 < x by omega]
      have hdx2 : ((x : Int) != 0) = bx := by
        rw [← hbx]
        by_cases h0 : x = 0
        · subst h0; rfl
        · simp [h0, show 0 < x by omega]
      have hmm : ((m : Int) == (m : Int)) = true := by simp
      have hmn : ((m : Int) != (m : Int)) = false := by simp
      clear HT HB hbx hcc
      cases bx
      all_goals
        go_enter Try.func4, Try.ntmps4
        go_wp2_with (first
          | (go_at_call 9; refine (HK.out _).mono ?_; rintro e w1 ⟨rfl, hb1⟩)
          | (go_at_call 16; refine (HT2.out _).mono ?_; rintro e w2 ⟨d1, rfl, hs1, hb2⟩)
          | (go_at_call 17; refine (HB2.out _).mono ?_; rintro e w3 ⟨d2, rfl, hs2, hb3⟩)
          | (go_at_call 12; refine (HS.out _).mono ?_; rintro e w4 ⟨rfl, hb4⟩; have hs1' := (hs1.later hb3).later hb4; have hs2' := hs2.later hb4)
          | fail)
        refine (HL.out d1 _ _ hs1').mono ?_
        rintro e wz ⟨rfl, hwz⟩
        subst wz
        go_wp2_with fail
        refine (HL.out d2 _ _ hs2').mono ?_
        rintro e wz ⟨rfl, hwz⟩
        subst wz
        go_wp2_with fail
        refine (HC.out d2 _ _ hs2').mono ?_
        rintro e wz ⟨rfl, hwz⟩
        subst wz
        rw [if_pos rfl]
        go_wp2_with fail
        refine (HC.out d1 _ _ hs1').mono ?_
        rintro e wz ⟨rfl, hwz⟩
        subst wz
        first
          | rw [if_pos rfl]
          | rw [if_neg Bool.false_ne_true]
        go_wp2
        go_ret
        exact ⟨rfl, below_on (below_on (below_on hb1 hb2) hb3) hb4⟩
end Go.Proofs.Ytoephmcmmbhnaab
