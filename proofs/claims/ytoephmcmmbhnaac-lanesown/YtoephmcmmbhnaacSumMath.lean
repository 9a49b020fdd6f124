/-
  Sums of numbers beyond 64 bits: two halves (no names of a seat but the namespace).
-/
namespace Go.Proofs.Ytoephmcmmbhnaac

/-- The sum of the first n numbers. -/
def sumN (L : Nat → Nat) : Nat → Nat
  | 0 => 0
  | n + 1 => sumN L n + L n
theorem sumN_congr {L L' : Nat → Nat} {n : Nat} (h : ∀ j, j < n → L j = L' j) : sumN L n = sumN L' n := by
  induction n with
  | zero => rfl
  | succ n ih => simp [sumN, ih (fun j hj => h j (by omega)), h n (by omega)]
theorem sumN_le {L : Nat → Nat} {b n : Nat} (h : ∀ j, j < n → L j ≤ b) : sumN L n ≤ n * b := by
  induction n with
  | zero => simp [sumN]
  | succ n ih =>
    have := ih (fun j hj => h j (by omega))
    have := h n (by omega)
    simp only [sumN, Nat.succ_mul]
    omega
/-- The lower half wraps just where the next sum carries. -/
theorem carry_step (s x : Nat) (hx : x < 18446744073709551616) :
    (s + x) % 18446744073709551616 = (s % 18446744073709551616 + x) % 18446744073709551616 ∧
    (s + x) / 18446744073709551616 = s / 18446744073709551616 + (if (s % 18446744073709551616 + x) % 18446744073709551616 < s % 18446744073709551616 then 1 else 0) := by
  refine ⟨by omega, ?_⟩
  split <;> omega
/-- By the halves of the numbers. -/
theorem sumN_halves (L : Nat → Nat) (n : Nat) : sumN L n = sumN (fun j => L j % 4294967296) n + sumN (fun j => L j / 4294967296) n * 4294967296 := by
  induction n with
  | zero => simp [sumN]
  | succ n ih => simp only [sumN]; omega
theorem halves_whole (low top : Nat) : (low % 18446744073709551616 + top * 4294967296 % 18446744073709551616) % 18446744073709551616 = (low + top * 4294967296) % 18446744073709551616 := by omega
theorem halves_carry (low top : Nat) : (low / 4294967296 + top) / 4294967296 = (low + top * 4294967296) / 18446744073709551616 := by omega

/-- The least and the greatest of the first n numbers. -/
def minN (L : Nat → Nat) : Nat → Nat
  | 0 => L 0
  | n + 1 => min (minN L n) (L n)
def maxN (L : Nat → Nat) : Nat → Nat
  | 0 => L 0
  | n + 1 => max (maxN L n) (L n)
theorem minN_le (L : Nat → Nat) (n j : Nat) (h : j < n) : minN L n ≤ L j := by
  induction n with
  | zero => omega
  | succ n ih =>
    simp only [minN]
    rcases Nat.lt_or_ge j n with h' | h'
    · have := ih h'; omega
    · obtain rfl : j = n := by omega
      omega
theorem le_maxN (L : Nat → Nat) (n j : Nat) (h : j < n) : L j ≤ maxN L n := by
  induction n with
  | zero => omega
  | succ n ih =>
    simp only [maxN]
    rcases Nat.lt_or_ge j n with h' | h'
    · have := ih h'; omega
    · obtain rfl : j = n := by omega
      omega
theorem minN_mem (L : Nat → Nat) (n : Nat) (h : 0 < n) : ∃ j, j < n ∧ minN L n = L j := by
  induction n with
  | zero => omega
  | succ n ih =>
    rcases Nat.eq_zero_or_pos n with rfl | h'
    · exact ⟨0, by omega, by simp [minN]⟩
    · obtain ⟨j, hj, e⟩ := ih h'
      simp only [minN]
      rcases Nat.le_total (minN L n) (L n) with h1 | h1
      · exact ⟨j, by omega, by rw [Nat.min_eq_left h1, e]⟩
      · exact ⟨n, by omega, by rw [Nat.min_eq_right h1]⟩
theorem maxN_mem (L : Nat → Nat) (n : Nat) (h : 0 < n) : ∃ j, j < n ∧ maxN L n = L j := by
  induction n with
  | zero => omega
  | succ n ih =>
    rcases Nat.eq_zero_or_pos n with rfl | h'
    · exact ⟨0, by omega, by simp [maxN]⟩
    · obtain ⟨j, hj, e⟩ := ih h'
      simp only [maxN]
      rcases Nat.le_total (maxN L n) (L n) with h1 | h1
      · exact ⟨n, by omega, by rw [Nat.max_eq_right h1]⟩
      · exact ⟨j, by omega, by rw [Nat.max_eq_left h1, e]⟩
/-- Any least, any greatest. -/
theorem minN_eq {L : Nat → Nat} {n v : Nat} (h1 : ∀ j, j < n → v ≤ L j) (h2 : ∃ j, j < n ∧ v = L j) : minN L n = v := by
  obtain ⟨j, hj, rfl⟩ := h2
  obtain ⟨k, hk, e⟩ := minN_mem L n (by omega)
  have := minN_le L n j hj
  have := h1 k hk
  omega
theorem maxN_eq {L : Nat → Nat} {n v : Nat} (h1 : ∀ j, j < n → L j ≤ v) (h2 : ∃ j, j < n ∧ v = L j) : maxN L n = v := by
  obtain ⟨j, hj, rfl⟩ := h2
  obtain ⟨k, hk, e⟩ := maxN_mem L n (by omega)
  have := le_maxN L n j hj
  have := h1 k hk
  omega
end Go.Proofs.Ytoephmcmmbhnaac
