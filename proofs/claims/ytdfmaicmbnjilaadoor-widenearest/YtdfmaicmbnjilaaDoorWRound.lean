/-
  Package wide: rounded.
-/
import Derived.Test.YtdfmaicmbnjilaaDoorWLift
namespace Go.Proofs.YtdfmaicmbnjilaaDoor
open Go.RowKit Wd

theorem len_any (y : Nat) (h : y < 18446744073709551616) (w : World) : Calls Tryd.prog 58 #[.int .u64 (y : Int)] w fun e w' => e = .returned (.int .i64 (Lib.bitLen y : Int)) ∧ w' = w := by
  have := Any.bits_Len64 laidLen (y : Int) w (by omega) (by omega)
  rw [Int.toNat_natCast] at this
  exact this
/-- How many bits fall off; the number that is kept. -/
def pwN (u : Nat) : Nat := Lib.bitLen u - 53
def kpN (u : Nat) : Nat := if 2 ^ (pwN u - 1) < u % 2 ^ pwN u ∨ (u % 2 ^ pwN u = 2 ^ (pwN u - 1) ∧ u / 2 ^ pwN u % 2 = 1) then u / 2 ^ pwN u + 1 else u / 2 ^ pwN u
theorem len_two {u : Nat} (h1 : 4611686018427387904 ≤ u) (h2 : u < 18446744073709551616) : (Lib.bitLen u = 63 ∧ u < 9223372036854775808) ∨ (Lib.bitLen u = 64 ∧ 9223372036854775808 ≤ u) := by
  obtain ⟨a, b, c⟩ := bl_bounds 64 u (Nat.le_refl _) (by omega) (by simpa using h2)
  have d := Lib.bitLen_le u 64 (Nat.le_refl _) (by simpa using h2)
  have e : 63 ≤ Lib.bitLen u := by
    apply Nat.le_of_not_lt
    intro hlt
    have : 2 ^ Lib.bitLen u ≤ 2 ^ 62 := Nat.pow_le_pow_right (by decide) (by omega)
    have : (2 : Nat) ^ 62 = 4611686018427387904 := by decide
    omega
  rcases (by omega : Lib.bitLen u = 63 ∨ Lib.bitLen u = 64) with h | h
  · rw [h] at c; exact .inl ⟨h, by simpa using c⟩
  · rw [h] at b; exact .inr ⟨h, by simpa using b⟩
set_option maxRecDepth 8000 in
set_option maxHeartbeats 1600000 in
theorem rounded_63 (u : Nat) (h1 : 4611686018427387904 ≤ u) (h2 : u < 18446744073709551616) (hb : Lib.bitLen u = 63) (w : World) :
    Calls Tryd.prog 48 #[.int .u64 (u : Int)] w fun e w' => e = .returned (.tuple #[.int .u64 (kpN u : Int), .int .i64 (pwN u : Int)]) ∧ w' = w := by
  have hp : pwN u = 10 := by unfold pwN; rw [hb]
  have CL := hid (len_any u h2)
  rw [hb] at CL
  have ek : (u : Int) / 1024 = ((u / 1024 : Nat) : Int) := by omega
  obtain ⟨k, hk⟩ : ∃ k, k = u / 1024 := ⟨_, rfl⟩
  obtain ⟨c, hc⟩ : ∃ c, c = u % 1024 := ⟨_, rfl⟩
  have es : (u : Int) - (k : Int) * 1024 = (c : Int) := by omega
  have hkl : (k : Int) * 1024 < 18446744073709551616 := by omega
  rw [← hk] at ek
  have hkk : kpN u = if 512 < c ∨ (c = 512 ∧ k % 2 = 1) then k + 1 else k := by unfold kpN; rw [hp, hk, hc]
  rw [hkk, hp]
  have hcl : c < 1024 := by omega
  have hkl2 : k < 18446744073709551615 := by omega
  clear hk hc hp hkk hb
  by_cases c1 : 512 < c
  · rw [if_pos (.inl c1)]
    have c1' : (512 : Int) < (c : Int) := by omega
    go_enter Tryd.func48, Tryd.ntmps48
    go_wp2_with (go_at_call 58; refine (CL.out _).mono ?_; rintro e w9 ⟨rfl, hw9⟩; subst w9)
    go_ret2
    exact ⟨by simp, rfl⟩
  · have c1' : ¬ (512 : Int) < (c : Int) := by omega
    by_cases c2 : c = 512
    · subst c2
      by_cases c3 : k % 2 = 1
      · rw [if_pos (.inr ⟨rfl, c3⟩)]
        have c3' : (k : Int) % 2 = 1 := by omega
        go_enter Tryd.func48, Tryd.ntmps48
        go_wp2_with (go_at_call 58; refine (CL.out _).mono ?_; rintro e w9 ⟨rfl, hw9⟩; subst w9)
        go_ret2
        exact ⟨by simp, rfl⟩
      · rw [if_neg (by omega)]
        have c3' : (k : Int) % 2 = 0 := by omega
        clear c3
        go_enter Tryd.func48, Tryd.ntmps48
        go_wp2_with (go_at_call 58; refine (CL.out _).mono ?_; rintro e w9 ⟨rfl, hw9⟩; subst w9)
        go_ret2
        exact ⟨by simp, rfl⟩
    · rw [if_neg (by omega)]
      have c2a : (c : Int) < 512 := by omega
      have c2b : ¬ (c : Int) = 512 := by omega
      clear c2 c1 c1' hcl
      have c1' : ((512 : Int) < (c : Int)) = False := by simp; omega
      go_enter Tryd.func48, Tryd.ntmps48
      go_wp2_with (go_at_call 58; refine (CL.out _).mono ?_; rintro e w9 ⟨rfl, hw9⟩; subst w9)
      go_ret2
      exact ⟨by simp, rfl⟩
set_option maxRecDepth 8000 in
set_option maxHeartbeats 1600000 in
theorem rounded_64 (u : Nat) (h1 : 4611686018427387904 ≤ u) (h2 : u < 18446744073709551616) (hb : Lib.bitLen u = 64) (w : World) :
    Calls Tryd.prog 48 #[.int .u64 (u : Int)] w fun e w' => e = .returned (.tuple #[.int .u64 (kpN u : Int), .int .i64 (pwN u : Int)]) ∧ w' = w := by
  have hp : pwN u = 11 := by unfold pwN; rw [hb]
  have CL := hid (len_any u h2)
  rw [hb] at CL
  have ek : (u : Int) / 2048 = ((u / 2048 : Nat) : Int) := by omega
  obtain ⟨k, hk⟩ : ∃ k, k = u / 2048 := ⟨_, rfl⟩
  obtain ⟨c, hc⟩ : ∃ c, c = u % 2048 := ⟨_, rfl⟩
  have es : (u : Int) - (k : Int) * 2048 = (c : Int) := by omega
  have hkl : (k : Int) * 2048 < 18446744073709551616 := by omega
  rw [← hk] at ek
  have hkk : kpN u = if 1024 < c ∨ (c = 1024 ∧ k % 2 = 1) then k + 1 else k := by unfold kpN; rw [hp, hk, hc]
  rw [hkk, hp]
  have hcl : c < 2048 := by omega
  have hkl2 : k < 18446744073709551615 := by omega
  clear hk hc hp hkk hb
  by_cases c1 : 1024 < c
  · rw [if_pos (.inl c1)]
    have c1' : (1024 : Int) < (c : Int) := by omega
    go_enter Tryd.func48, Tryd.ntmps48
    go_wp2_with (go_at_call 58; refine (CL.out _).mono ?_; rintro e w9 ⟨rfl, hw9⟩; subst w9)
    go_ret2
    exact ⟨by simp, rfl⟩
  · have c1' : ¬ (1024 : Int) < (c : Int) := by omega
    by_cases c2 : c = 1024
    · subst c2
      by_cases c3 : k % 2 = 1
      · rw [if_pos (.inr ⟨rfl, c3⟩)]
        have c3' : (k : Int) % 2 = 1 := by omega
        go_enter Tryd.func48, Tryd.ntmps48
        go_wp2_with (go_at_call 58; refine (CL.out _).mono ?_; rintro e w9 ⟨rfl, hw9⟩; subst w9)
        go_ret2
        exact ⟨by simp, rfl⟩
      · rw [if_neg (by omega)]
        have c3' : (k : Int) % 2 = 0 := by omega
        clear c3
        go_enter Tryd.func48, Tryd.ntmps48
        go_wp2_with (go_at_call 58; refine (CL.out _).mono ?_; rintro e w9 ⟨rfl, hw9⟩; subst w9)
        go_ret2
        exact ⟨by simp, rfl⟩
    · rw [if_neg (by omega)]
      have c2a : (c : Int) < 1024 := by omega
      have c2b : ¬ (c : Int) = 1024 := by omega
      clear c2 c1 c1' hcl
      have c1' : ((1024 : Int) < (c : Int)) = False := by simp; omega
      go_enter Tryd.func48, Tryd.ntmps48
      go_wp2_with (go_at_call 58; refine (CL.out _).mono ?_; rintro e w9 ⟨rfl, hw9⟩; subst w9)
      go_ret2
      exact ⟨by simp, rfl⟩
theorem rounded_any (u : Nat) (h1 : 4611686018427387904 ≤ u) (h2 : u < 18446744073709551616) (w : World) :
    Calls Tryd.prog 48 #[.int .u64 (u : Int)] w fun e w' => e = .returned (.tuple #[.int .u64 (kpN u : Int), .int .i64 (pwN u : Int)]) ∧ w' = w := by
  rcases len_two h1 h2 with ⟨h, _⟩ | ⟨h, _⟩
  · exact rounded_63 u h1 h2 h w
  · exact rounded_64 u h1 h2 h w
theorem kp_bounds {u : Nat} (h1 : 4611686018427387904 ≤ u) (h2 : u < 18446744073709551616) : 4503599627370496 ≤ kpN u ∧ kpN u ≤ 9007199254740992 ∧ 10 ≤ pwN u ∧ pwN u ≤ 11 := by
  rcases len_two h1 h2 with ⟨h, k⟩ | ⟨h, k⟩
  · have hp : pwN u = 10 := by unfold pwN; rw [h]
    unfold kpN
    rw [hp]
    split <;> omega
  · have hp : pwN u = 11 := by unfold pwN; rw [h]
    unfold kpN
    rw [hp]
    split <;> omega
end Go.Proofs.YtdfmaicmbnjilaaDoor
