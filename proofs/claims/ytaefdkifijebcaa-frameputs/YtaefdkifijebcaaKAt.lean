/-
  At, and the document's.
-/
import Derived.Test.YtaefdkifijebcaaKRefWord
namespace Go.Proofs.Ytaefdkifijebcaa.Pk
open Go.RowKit

/-- Does lane i lie wholly within n bytes? -/
def atIs (n : Nat) (width i : Int) : Bool := isWidth width && decide (0 ≤ i) && (decide (width = 0) || decide (i < 8 * (n : Int) / width))
def atV (B : Nat → Nat) (n : Nat) (width i : Int) : Nat := if atIs n width i = true then laneOf (bitB B) width.toNat i.toNat else 0

theorem atIs_no1 {n : Nat} {width i : Int} (h : isWidth width = false) : atIs n width i = false := by unfold atIs; simp [h]
theorem atIs_no2 {n : Nat} {width i : Int} (h : i < 0) : atIs n width i = false := by unfold atIs; simp [show ¬ 0 ≤ i by omega]
theorem atIs_zero {n : Nat} {i : Int} (h : 0 ≤ i) : atIs n 0 i = true := by unfold atIs; simp [h, isWidth]
theorem atIs_in {n k i : Nat} (hk : k ≤ 64) : atIs n (k : Int) (i : Int) = (decide (k = 0) || decide (i < 8 * n / k)) := by
  unfold atIs
  rw [isWidth_nat k hk]
  have e : (8 * (n : Int) / (k : Int)) = ((8 * n / k : Nat) : Int) := by simp
  rw [e]
  simp
  by_cases h : k = 0 <;> simp [h]
  omega
theorem in_mul {n k i : Nat} (h : i < 8 * n / k) : i * k < 8 * n := by
  have hk : 0 < k := by
    rcases Nat.eq_zero_or_pos k with rfl | h0
    · simp at h
    · exact h0
  have := (Nat.lt_div_iff_mul_lt hk).1 h
  omega

set_option maxHeartbeats 1000000 in
set_option maxRecDepth 20000 in
theorem at_any (a0 : Option Addr) (n c : Nat) (B : Nat → Nat) (width i : Int) (w : World) (hn2 : n ≤ 140737488355328) (hc : n ≤ c) (hc2 : c ≤ 9223372036854775807) (hB : ∀ j, B j < 256) (hz : ∀ j, n ≤ j → B j = 0) (hN : Nums w .u8 a0 n B) :
    Calls Try.prog 81 #[.slice a0 n c, .int .i64 width, .int .i64 i] w fun e w' => e = .returned (.tuple #[.int .u64 (atV B n width i : Int), .bool (atIs n width i)]) ∧ ∃ j, w' = w.drewN j := by
  cases hw : isWidth width with
  | false =>
    have e1 := atIs_no1 (n := n) (i := i) hw
    have e2 : atV B n width i = 0 := by unfold atV; rw [e1]; rfl
    rw [e1, e2]
    have HW : Hid (isWidth width = false) := hw
    clear e1 e2 hw hN
    go_enter Try.func81, Try.ntmps81
    go_wp2_with (go_at_call 79; refine (mayBe_any _ _).mono ?_; rintro e w' ⟨rfl, rfl⟩; rw [HW.out])
    go_ret2
    exact ⟨rfl, 0, rfl⟩
  | true =>
    by_cases h0 : i < 0
    · have e1 := atIs_no2 (n := n) (width := width) h0
      have e2 : atV B n width i = 0 := by unfold atV; rw [e1]; rfl
      rw [e1, e2]
      have HW : Hid (isWidth width = true) := hw
      have hd : decide (i < 0) = true := by simpa using h0
      clear e1 e2 hw hN
      go_enter Try.func81, Try.ntmps81
      go_wp2_with (go_at_call 79; refine (mayBe_any _ _).mono ?_; rintro e w' ⟨rfl, rfl⟩; rw [HW.out])
      go_ret2
      exact ⟨rfl, 0, rfl⟩
    · obtain ⟨m, rfl⟩ : ∃ m : Nat, i = (m : Int) := ⟨i.toNat, by omega⟩
      have hd : decide ((m : Int) < 0) = false := by simp
      have HW : Hid (isWidth width = true) := hw
      obtain ⟨k, rfl, hk⟩ := isWidth_yes hw
      by_cases hk0 : k = 0
      · subst hk0
        have e1 : atIs n ((0 : Nat) : Int) (m : Int) = true := atIs_zero (by omega)
        have e2 : atV B n ((0 : Nat) : Int) (m : Int) = 0 := by unfold atV; rw [e1]; rfl
        rw [e1, e2]
        clear e1 e2 hw hN
        have HW0 : Hid (isWidth 0 = true) := rfl
        go_enter Try.func81, Try.ntmps81
        go_wp2_with (go_at_call 79; refine (mayBe_any _ _).mono ?_; rintro e w' ⟨rfl, rfl⟩; rw [HW0.out])
        go_ret2
        exact ⟨rfl, 0, rfl⟩
      · have e1 := atIs_in (n := n) (i := m) hk
        simp [hk0] at e1
        have hke : ((k : Int) == 0) = false := by simp; omega
        have hq : (n : Int) * 8 / (k : Int) = ((8 * n / k : Nat) : Int) := by
          rw [show (n : Int) * 8 = ((8 * n : Nat) : Int) by omega]; rfl
        have hql : 8 * n / k ≤ 8 * n := Nat.div_le_self _ _
        have HI := in_mul (n := n) (k := k) (i := m)
        have hp : (m : Int) * (k : Int) = ((m * k : Nat) : Int) := by simp
        have HL : Hid (bits BinOp.and IntKind.u64 (wordZ (bitB B) ((m * k : Nat) : Int) : Int) ((2 ^ k - 1 : Nat) : Int) = (laneOf (bitB B) k m : Int)) := lane_int hk
        have HC : Hid (∀ (bit : Int) wx, bit ≤ 9223372036854775807 → wx = w → Calls Try.prog 49 #[.slice a0 n c, .int .i64 bit] wx fun e w' => e = .returned (.int .u64 (wordZ (bitB B) bit : Int)) ∧ ∃ j, w' = wx.drewN j) := fun bit wx h e => by subst e; exact word_any a0 n c B bit _ hn2 hc hc2 hB hz hN h
        have HE : Hid (∀ b, decide (m < 8 * n / k) = b → atV B n (k : Int) (m : Int) = if b = true then laneOf (bitB B) k m else 0) := fun b hb => by unfold atV; rw [e1, hb, Int.toNat_natCast, Int.toNat_natCast]
        rw [e1]
        clear e1 hw hN hB hz
        generalize 8 * n / k = q at *
        generalize m * k = p at *
        by_cases hin : m < q
        · have hm := HI hin
          have HV := HE.out true (by simpa using hin)
          simp only [if_true] at HV
          rw [HV]
          have hdq : decide (m < q) = true := by simpa using hin
          rw [hdq]
          have hdi : decide ((q : Int) ≤ (m : Int)) = false := by simp; omega
          clear HE HI HV hdq
          generalize laneOf (bitB B) k m = z at *
          go_enter Try.func81, Try.ntmps81
          go_wp2_with (first | (go_at_call 79; refine (mayBe_any _ _).mono ?_; rintro e w' ⟨rfl, rfl⟩; rw [HW.out]) | (go_at_call 49; refine Calls.mono (HC.out (p : Int) _ (by omega) rfl) ?_; rintro e w' ⟨rfl, j, rfl⟩) | (go_at_call 82; refine (lowest_any k _ hk).mono ?_; rintro e w' ⟨rfl, rfl⟩))
          go_ret2
          exact ⟨by rw [HL.out]; rfl, j, rfl⟩
        · have HV := HE.out false (by simpa using hin)
          simp at HV
          rw [HV]
          have hdq : decide (m < q) = false := by simpa using hin
          rw [hdq]
          have hdi : decide ((q : Int) ≤ (m : Int)) = true := by simp; omega
          clear HE HI HV hdq
          go_enter Try.func81, Try.ntmps81
          go_wp2_with (go_at_call 79; refine (mayBe_any _ _).mono ?_; rintro e w' ⟨rfl, rfl⟩; rw [HW.out])
          go_ret2
          exact ⟨rfl, 0, rfl⟩

end Go.Proofs.Ytaefdkifijebcaa.Pk
