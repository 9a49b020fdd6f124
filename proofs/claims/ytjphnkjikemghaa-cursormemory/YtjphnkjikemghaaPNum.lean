/-
  The program's own readings, within a reading: numbers of a width.
-/
import Derived.Test.YtjphnkjikemghaaPStep
namespace Go.Proofs.Ytjphnkjikemghaa
open Go.RowKit Cu

theorem unfx_snoc (l : List Nat) (c : Nat) : unfx (l ++ [c]) = unfx l + c * 2 ^ (8 * l.length) := by
  induction l with
  | nil => simp [unfx]
  | cons a l ih =>
    simp only [List.cons_append, unfx, ih, List.length_cons]
    rw [show 8 * (l.length + 1) = 8 * l.length + 8 by omega, Nat.pow_add]
    have : c * (2 ^ (8 * l.length) * 2 ^ 8) = 256 * (c * 2 ^ (8 * l.length)) := by
      rw [show (2 : Nat) ^ 8 = 256 by decide, ← Nat.mul_assoc, Nat.mul_comm]
    rw [this]
    omega
theorem unfx_take {l : List Nat} {i : Nat} (hi : i < l.length) : unfx (l.take (i + 1)) = unfx (l.take i) + ofL l i * 2 ^ (8 * i) := by
  rw [List.take_add_one, ofL_in hi]
  show unfx (l.take i ++ [ofL l i]) = _
  rw [unfx_snoc, List.length_take, Nat.min_eq_left (by omega)]
theorem unfx_bnd {l : List Nat} (h : ∀ c ∈ l, c < 256) (i : Nat) : unfx (l.take i) < 2 ^ (8 * i) := by
  have h1 := unfx_lt (l.take i) (fun c hc => h c (List.mem_of_mem_take hc))
  refine Nat.lt_of_lt_of_le h1 ?_
  rw [show (2 : Nat) ^ (8 * i) = 256 ^ i by rw [Nat.pow_mul]]
  exact Nat.pow_le_pow_right (by omega) (by rw [List.length_take]; omega)
theorem num_sum {v y z i : Nat} (hv : v < 2 ^ (8 * i)) (hz : y * 2 ^ (8 * i) = z) (hi : i < 8) (hy : y < 256) : v + z < 18446744073709551616 := by
  have e7 : 2 ^ (8 * (i + 1)) = 256 * 2 ^ (8 * i) := by rw [show 8 * (i + 1) = 8 * i + 8 by omega, Nat.pow_add]; omega
  have h2 : z ≤ 255 * 2 ^ (8 * i) := by rw [← hz]; exact Nat.mul_le_mul_right _ (by omega)
  have h5 : 2 ^ (8 * (i + 1)) ≤ 2 ^ 64 := Nat.pow_le_pow_right (by omega) (by omega)
  have e : (2 : Nat) ^ 64 = 18446744073709551616 := by decide
  rw [e] at h5
  omega
theorem fix_no {r : Rd} (h0 : r.e = 0) {k : Nat} (h : r.rest.length < k) : r.fix k = (0, r.no 71) := by
  unfold Rd.fix; rw [if_neg (by simp [h0]), if_pos h]
theorem fix_ok {r : Rd} (h0 : r.e = 0) {k : Nat} (h : k ≤ r.rest.length) : r.fix k = (unfx (r.rest.take k), r.on k) := by
  unfold Rd.fix; rw [if_neg (by simp [h0]), if_neg (by omega)]
end Go.Proofs.Ytjphnkjikemghaa
