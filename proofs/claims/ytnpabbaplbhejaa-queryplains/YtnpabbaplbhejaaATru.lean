import Derived.Test.YtnpabbaplbhejaaVAll
import Derived.Test.YtnpabbaplbhejaaVArgs
/-
  And, Or, Not of truths. (Written by mkklm.py.)
-/
namespace Go.Proofs.Ytnpabbaplbhejaa.Tr
open Go.ChangeShapes Go.WideShapes Go.ChangeAt Go.RowKit

/-- n numbers of a kind, as a slice from a0 on reads. -/
def Nums (w : World) (k : IntKind) (a0 : Option Addr) (n : Nat) (L : Nat → Int) : Prop :=
  ∀ j, j < n → ∃ g o, a0 = some ⟨g, o, none⟩ ∧ g < w.heap.size ∧ w.cell? ⟨g, o + j, none⟩ = some (.int k (L j : Int))
def rk (x : Int) : Int := if x = 0 then 0 else if x = 1 then 2 else 1
def tr (r : Int) : Int := if r = 0 then 0 else if r = 2 then 1 else 2
def mn (L : Nat → Int) : Nat → Int
  | 0 => 2
  | n + 1 => min (mn L n) (rk (L n))
def mx (L : Nat → Int) : Nat → Int
  | 0 => 0
  | n + 1 => max (mx L n) (rk (L n))
theorem rk_in (x : Int) : rk x = 0 ∨ rk x = 1 ∨ rk x = 2 := by
  unfold rk
  split
  · exact .inl rfl
  · split
    · exact .inr (.inr rfl)
    · exact .inr (.inl rfl)
theorem mn_in (L : Nat → Int) (n : Nat) : mn L n = 0 ∨ mn L n = 1 ∨ mn L n = 2 := by
  induction n with
  | zero => exact .inr (.inr rfl)
  | succ n ih =>
    have := rk_in (L n)
    rw [mn]
    omega
theorem mx_in (L : Nat → Int) (n : Nat) : mx L n = 0 ∨ mx L n = 1 ∨ mx L n = 2 := by
  induction n with
  | zero => exact .inl rfl
  | succ n ih =>
    have := rk_in (L n)
    rw [mx]
    omega
theorem mn_le (L : Nat → Int) {k n : Nat} (h : k ≤ n) : mn L n ≤ mn L k := by
  induction n with
  | zero => rw [show k = 0 by omega]; exact Int.le_refl _
  | succ n ih =>
    by_cases e : k = n + 1
    · rw [e]; exact Int.le_refl _
    · have := ih (by omega)
      rw [mn]
      omega
theorem mx_le (L : Nat → Int) {k n : Nat} (h : k ≤ n) : mx L k ≤ mx L n := by
  induction n with
  | zero => rw [show k = 0 by omega]; exact Int.le_refl _
  | succ n ih =>
    by_cases e : k = n + 1
    · rw [e]; exact Int.le_refl _
    · have := ih (by omega)
      rw [mx]
      omega
theorem mn_zero {L : Nat → Int} {k n : Nat} (h : k < n) (h0 : L k = 0) : tr (mn L n) = 0 := by
  have h1 := mn_le L (show k + 1 ≤ n by omega)
  have h2 : mn L (k + 1) ≤ 0 := by rw [mn, h0, show rk 0 = 0 from rfl]; omega
  have := mn_in L n
  rw [show mn L n = 0 by omega]
  rfl
theorem mx_top {L : Nat → Int} {k n : Nat} (h : k < n) (h0 : L k = 1) : tr (mx L n) = 1 := by
  have h1 := mx_le L (show k + 1 ≤ n by omega)
  have h2 : 2 ≤ mx L (k + 1) := by rw [mx, h0, show rk 1 = 2 from rfl]; omega
  have := mx_in L n
  rw [show mx L n = 2 by omega]
  rfl
theorem mn_ext {L M : Nat → Int} {n : Nat} (h : ∀ j, j < n → L j = M j) : mn L n = mn M n := by
  induction n with
  | zero => rfl
  | succ n ih => rw [mn, mn, ih (fun j hj => h j (by omega)), h n (by omega)]
theorem mx_ext {L M : Nat → Int} {n : Nat} (h : ∀ j, j < n → L j = M j) : mx L n = mx M n := by
  induction n with
  | zero => rfl
  | succ n ih => rw [mx, mx, ih (fun j hj => h j (by omega)), h n (by omega)]
def notI (x : Int) : Int := tr (2 - rk x)

end Go.Proofs.Ytnpabbaplbhejaa.Tr
