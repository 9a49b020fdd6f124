/-
  Numbers as digits to the base 65536: as mathematics.
-/
import Derived.Test.YtdfmaicmbnjilaaDoorWMath
namespace Go.Proofs.YtdfmaicmbnjilaaDoor
namespace Wd

def dv (D : Nat → Nat) : Nat → Nat
  | 0 => 0
  | n + 1 => dv D n + D n * 65536 ^ n
def Dig (D : Nat → Nat) : Prop := ∀ j, D j < 65536
theorem dv_ext {A B : Nat → Nat} : ∀ {n : Nat}, (∀ j, j < n → A j = B j) → dv A n = dv B n
  | 0, _ => rfl
  | n + 1, h => by
    show dv A n + A n * _ = dv B n + B n * _
    rw [dv_ext fun j hj => h j (by omega), h n (by omega)]
theorem dv_lt {D : Nat → Nat} (h : Dig D) : ∀ n, dv D n < 65536 ^ n
  | 0 => Nat.zero_lt_one
  | n + 1 => by
    have ih := dv_lt h n
    have hd := h n
    show dv D n + D n * 65536 ^ n < 65536 ^ (n + 1)
    rw [Nat.pow_succ]
    have := Nat.mul_le_mul_right (65536 ^ n) (show D n ≤ 65535 by omega)
    generalize 65536 ^ n = p at *
    generalize D n * p = q at *
    omega
theorem dv_none {D : Nat → Nat} (h : ∀ j, D j = 0) : ∀ n, dv D n = 0
  | 0 => rfl
  | n + 1 => by show dv D n + D n * _ = 0; rw [dv_none h n, h n]; omega
theorem dv_zero {D : Nat → Nat} : ∀ {n : Nat}, dv D n = 0 ↔ ∀ j, j < n → D j = 0
  | 0 => ⟨fun _ j hj => by omega, fun _ => rfl⟩
  | n + 1 => by
    show dv D n + D n * 65536 ^ n = 0 ↔ _
    have ih := @dv_zero D n
    have hp : 0 < 65536 ^ n := Nat.pow_pos (by decide)
    constructor
    · intro h j hj
      have h1 : dv D n = 0 := by omega
      have h2 : D n * 65536 ^ n = 0 := by omega
      have h3 : D n = 0 := by
        rcases Nat.mul_eq_zero.1 h2 with h | h
        · exact h
        · omega
      by_cases e : j = n
      · rw [e]; exact h3
      · exact ih.1 h1 j (by omega)
    · intro h
      rw [ih.2 fun j hj => h j (by omega), h n (by omega)]
      omega
/-- The highest digit that differs decides. -/
theorem dv_top {A B : Nat → Nat} (hA : Dig A) {i : Nat} (h : A i < B i) : dv A (i + 1) < dv B (i + 1) := by
  show dv A i + A i * 65536 ^ i < dv B i + B i * 65536 ^ i
  have h1 := dv_lt hA i
  have h2 := Nat.mul_le_mul_right (65536 ^ i) (show A i + 1 ≤ B i from h)
  rw [Nat.add_mul] at h2
  omega
theorem dv_same {A B : Nat → Nat} {i : Nat} : ∀ {n : Nat}, i ≤ n → (∀ j, i ≤ j → j < n → A j = B j) → ((dv A n < dv B n) ↔ dv A i < dv B i)
  | n, hn, h => by
    induction n with
    | zero => obtain rfl : i = 0 := by omega
              exact Iff.rfl
    | succ n ih =>
      by_cases e : i = n + 1
      · subst e; exact Iff.rfl
      · have k := ih (by omega) (fun j h1 h2 => h j h1 (by omega))
        rw [← k]
        show dv A n + A n * _ < dv B n + B n * _ ↔ _
        rw [h n (by omega) (by omega)]
        omega
theorem dv_upd {D : Nat → Nat} {i x : Nat} : dv (fun j => if j = i then x else D j) i = dv D i := dv_ext fun j hj => by simp [show j ≠ i by omega]
end Wd
end Go.Proofs.YtdfmaicmbnjilaaDoor
