/-
  THE DOCUMENT's OWN ANSWERS about words: fits, Spread, Stands, Bit, Lane, word, Held, Marks.
-/
import Derived.Test.YtoephmcmmbhnaaaLTop
import Derived.Test.YtoephmcmmbhnaaaPackAll
namespace Go.Proofs.Ytoephmcmmbhnaaa.Ln
open Go.RowKit Go.Sort

theorem shr_zero (v k : Nat) : decide ((v : Int) / 2 ^ k = 0) = decide (v < 2 ^ k) := by
  have e : (v : Int) / 2 ^ k = ((v / 2 ^ k : Nat) : Int) := by rw [pow_cast]; rfl
  rw [e, decide_eq_decide]
  have := Nat.two_pow_pos k
  constructor
  · intro h
    have h2 : v / 2 ^ k = 0 := by omega
    exact (Nat.div_eq_zero_iff.1 h2).resolve_left (by omega)
  · intro h
    rw [Nat.div_eq_of_lt h]; rfl
set_option maxHeartbeats 400000 in
theorem refFits_any (v k : Nat) (w : World) (hv : v < 18446744073709551616) (hk : k ≤ 64) : Calls Try.prog 26 #[.int .u64 (v : Int), .int .i64 (k : Int)] w fun e w' => e = .returned (.bool (decide (v < 2 ^ k))) ∧ w' = w := by
  by_cases h : k = 64
  · subst h
    have e : decide (v < 2 ^ 64) = true := by simpa using hv
    rw [e]
    clear e
    go_enter Try.func26, Try.ntmps26
    go_wp2
    go_ret
    exact ⟨rfl, rfl⟩
  · have hd : decide ((64 : Int) ≤ (k : Int)) = false := by simp; omega
    have hkw : IntKind.u64.wrap (k : Int) = (k : Int) := u64_left _ (by omega) (by omega)
    have HZ : Hid (((v : Int) / 2 ^ k == 0) = decide (v < 2 ^ k)) := by
      show _ = _
      rw [← shr_zero]
      by_cases h0 : (v : Int) / 2 ^ k = 0
      · simp [h0]
      · simp [h0]
    have hmin : min k 64 = k := by omega
    go_enter Try.func26, Try.ntmps26
    go_wp2
    go_ret
    exact ⟨ret_bool HZ.out, rfl⟩

set_option maxHeartbeats 1000000 in
theorem refSpread_any (v : Nat) (n : Int) (w : World) (hv : v < 18446744073709551616) (hn : -9223372036854775808 ≤ n ∧ n ≤ 9223372036854775807) :
    Calls Try.prog 9 #[.int .u64 (v : Int), .int .i64 n] w fun e w' => e = .returned (.tuple #[.int .u64 (spV v n : Int), .int .i64 (spE v n)]) ∧ w' = w := by
  cases hl : isLane n with
  | false =>
    have e1 : spV v n = 0 := by unfold spV; rw [if_neg (by simp [hl])]
    have e2 : spE v n = 20 := by unfold spE; rw [if_neg (by simp [hl])]
    rw [e1, e2]
    have h2 : n < 1 ∨ 64 < n := by simp [isLane] at hl; omega
    clear hl e1 e2
    rcases h2 with h | h
    · have hd : decide (n < 1) = true := by simpa using h
      go_enter Try.func9, Try.ntmps9
      go_wp2
      go_ret2
      exact ⟨rfl, rfl⟩
    · have hd : decide (n < 1) = false := by simp; omega
      have hd2 : decide (64 < n) = true := by simpa using h
      go_enter Try.func9, Try.ntmps9
      go_wp2
      go_ret2
      exact ⟨rfl, rfl⟩
  | true =>
    obtain ⟨k, rfl, hk1, hk⟩ := isLane_yes hl
    have hd : decide ((k : Int) < 1) = false := by simp; omega
    have hd2 : decide (64 < (k : Int)) = false := by simp; omega
    have HF : Hid (∀ W, Calls Try.prog 26 #[.int .u64 (v : Int), .int .i64 (k : Int)] W fun e w' => e = .returned (.bool (decide (v < 2 ^ k))) ∧ w' = W) := fun W => refFits_any v k W hv hk
    by_cases hf : v < 2 ^ k
    · have e1 : spV v (k : Int) = spreadN v k (lanesOf k) := by unfold spV; rw [if_pos (by simp [hl, hf])]; simp
      have e2 : spE v (k : Int) = 0 := by unfold spE; rw [if_pos hl, if_pos (by simpa using hf)]
      rw [e1, e2]
      have HD : Hid (decide (v < 2 ^ k) = true) := by show _ = _; simpa using hf
      have HS : Hid (∀ i, i < lanesOf k → bits BinOp.or IntKind.u64 (spreadN v k i : Int) (IntKind.u64.wrap ((v : Int) * 2 ^ (i * k))) = (spreadN v k (i + 1) : Int)) := fun i hi => spread_step hf hi
      have HPL : Hid (∀ i, i < lanesOf k → i * k < 64) := fun i hi => (lane_place hk1 hi).2
      have hq : (64 : Int) / (k : Int) = (lanesOf k : Int) := rfl
      have hll := lanes_le k
      have hkn : ¬ (k = 0) := by omega
      have HF0 : Hid (spreadN v k 0 = 0) := rfl
      clear hl e1 e2 hf
      generalize hFF : spreadN v k = F at *
      clear hFF
      generalize lanesOf k = m at *
      go_enter Try.func9, Try.ntmps9
      go_wp2_with (go_at_call 26; refine (HF.out _).mono ?_; rintro e wz ⟨rfl, hwz⟩; subst wz; rw [HD.out])
      go_loop [6, 7] (fun x i => ∃ t : Nat, t ≤ m ∧ i = .int .i64 t ∧ x = .int .u64 (F t : Int)) (fun _ i => m - (intOf i).toNat)
      case atStart => exact ⟨0, Nat.zero_le _, rfl, by rw [HF0.out]; rfl⟩
      case round =>
        obtain ⟨t, ht, rfl, rfl⟩ := hrel
        by_cases hlt : t < m
        · have hp := HPL.out t hlt
          have hpc : (t : Int) * (k : Int) = ((t * k : Nat) : Int) := by simp
          have hs := HS.out t hlt
          have hpw : IntKind.u64.wrap ((t * k : Nat) : Int) = ((t * k : Nat) : Int) := u64_left _ (by omega) (by omega)
          generalize t * k = p at *
          go_wp2
          exact ⟨⟨t + 1, by omega, by go_num, rfl⟩, by simp [intOf]; omega⟩
        · obtain rfl : t = m := by omega
          go_wp2
          go_ret2
          exact ⟨rfl, rfl⟩
    · have e1 : spV v (k : Int) = 0 := by unfold spV; rw [if_neg (by simp; intro _; omega)]
      have e2 : spE v (k : Int) = 21 := by unfold spE; rw [if_pos hl, if_neg (by simpa using hf)]
      rw [e1, e2]
      have HD : Hid (decide (v < 2 ^ k) = false) := by show _ = _; simpa using hf
      clear hl e1 e2 hf
      go_enter Try.func9, Try.ntmps9
      go_wp2_with (go_at_call 26; refine (HF.out _).mono ?_; rintro e wz ⟨rfl, hwz⟩; subst wz; rw [HD.out])
      go_ret2
      exact ⟨rfl, rfl⟩

set_option maxHeartbeats 1000000 in
theorem refStands_any (a c : Nat) (op : Int) (w : World) : Calls Try.prog 31 #[.int .u64 (a : Int), .int .i64 op, .int .u64 (c : Int)] w fun e w' => e = .returned (.bool (standsB op a c)) ∧ w' = w := by
  have d1 : decide (a = c) = ((a : Int) == (c : Int)) := by
    by_cases h : a = c
    · simp [h]
    · have h2 : ¬ (a : Int) = (c : Int) := by omega
      simp [h, h2]
  have d3 : decide (a < c) = decide ((a : Int) < (c : Int)) := by rw [decide_eq_decide]; omega
  have d5 : decide (c < a) = decide ((c : Int) < (a : Int)) := by rw [decide_eq_decide]; omega
  have h : op = 1 ∨ op = 2 ∨ op = 3 ∨ op = 4 ∨ op = 5 ∨ (op ≠ 1 ∧ op ≠ 2 ∧ op ≠ 3 ∧ op ≠ 4 ∧ op ≠ 5) := by omega
  rcases h with rfl | rfl | rfl | rfl | rfl | ⟨h1, h2, h3, h4, h5⟩
  · have e : standsB 1 a c = decide (a = c) := rfl
    rw [e, d1]
    clear d1 d3 d5 e
    go_enter Try.func31, Try.ntmps31
    go_wp2
    go_ret
    exact ⟨by simp, rfl⟩
  · have e : standsB 2 a c = !decide (a = c) := rfl
    rw [e, d1]
    clear d1 d3 d5 e
    go_enter Try.func31, Try.ntmps31
    go_wp2
    go_ret
    exact ⟨by simp [bne], rfl⟩
  · have e : standsB 3 a c = decide (a < c) := rfl
    rw [e, d3]
    clear d1 d3 d5 e
    go_enter Try.func31, Try.ntmps31
    go_wp2
    go_ret
    exact ⟨by simp, rfl⟩
  · have e : standsB 4 a c = !decide (c < a) := rfl
    rw [e, d5]
    clear d1 d3 d5 e
    go_enter Try.func31, Try.ntmps31
    go_wp2
    go_ret
    exact ⟨by simp [← decide_not], rfl⟩
  · have e : standsB 5 a c = decide (c < a) := rfl
    rw [e, d5]
    clear d1 d3 d5 e
    go_enter Try.func31, Try.ntmps31
    go_wp2
    go_ret
    exact ⟨by simp, rfl⟩
  · have e : standsB op a c = !decide (a < c) := by unfold standsB; rw [if_neg h1, if_neg h2, if_neg h3, if_neg h4, if_neg h5]
    rw [e, d3]
    have g1 : (op == 1) = false := by simpa using h1
    have g2 : (op == 2) = false := by simpa using h2
    have g3 : (op == 3) = false := by simpa using h3
    have g4 : (op == 4) = false := by simpa using h4
    have g5 : (op == 5) = false := by simpa using h5
    clear d1 d3 d5 e h1 h2 h3 h4 h5
    go_enter Try.func31, Try.ntmps31
    go_wp2
    go_ret
    exact ⟨by simp [← decide_not], rfl⟩
end Go.Proofs.Ytoephmcmmbhnaaa.Ln
