/-
  The document's reader: numbers of a width, short forms.
-/
import Derived.Test.YtmpogcneilaeaaaURd
namespace Go.Proofs.Ytmpogcneilaeaaa
open Go.RowKit Cu

theorem i64_nat (q : Nat) (h : q ≤ 9223372036854775807) : IntKind.i64.wrap (q : Int) = (q : Int) := by rw [IntKind.wrap_i64]; omega
theorem u64_nat (q : Nat) (h : q < 18446744073709551616) : IntKind.u64.wrap (q : Int) = (q : Int) := by rw [IntKind.wrap_u64]; omega
theorem rest_len (r : Rd) : r.rest.length = r.l.length - r.at' := by unfold Rd.rest; rw [List.length_drop]
theorem rest_get {r : Rd} {q : Nat} (h : r.at' + q < r.l.length) : r.rest[q]? = some (ofL r.l (r.at' + q)) := by
  unfold Rd.rest
  rw [List.getElem?_drop, ofL_in h]
/-- What is read from the last byte down. -/
def tailN (r : Rd) (k j : Nat) : Nat := unfx ((r.rest.take k).drop j)
theorem tail_step {r : Rd} {k q : Nat} (hq : q < k) (h : r.at' + k ≤ r.l.length) : tailN r k q = tailN r k (q + 1) * 256 + ofL r.l (r.at' + q) := by
  unfold tailN
  have hl : (r.rest.take k).length = k := by rw [List.length_take, rest_len]; omega
  have e : (r.rest.take k)[q]? = some (ofL r.l (r.at' + q)) := by rw [List.getElem?_take, if_pos hq, rest_get (by omega)]
  obtain ⟨hlt, e2⟩ := List.getElem?_eq_some_iff.1 e
  rw [List.drop_eq_getElem_cons hlt, unfx, e2]
  omega
theorem tail_lt {r : Rd} (hok : r.Ok) {k j : Nat} : tailN r k j < 256 ^ (k - j) := by
  have h1 := unfx_lt ((r.rest.take k).drop j) (fun c hc => hok.rest c (List.mem_of_mem_take (List.mem_of_mem_drop hc)))
  refine Nat.lt_of_lt_of_le h1 (Nat.pow_le_pow_right (by omega) ?_)
  rw [List.length_drop, List.length_take]
  omega
theorem tail_big {r : Rd} (hok : r.Ok) {k j : Nat} (hk : k ≤ 8) : tailN r k j < 18446744073709551616 :=
  Nat.lt_of_lt_of_le (tail_lt hok) (Nat.le_trans (Nat.pow_le_pow_right (by omega) (show k - j ≤ 8 by omega)) (by decide))
theorem tail_end {r : Rd} {k : Nat} : tailN r k k = 0 := by
  unfold tailN
  rw [List.drop_eq_nil_of_le (by rw [List.length_take]; omega)]
  rfl
end Go.Proofs.Ytmpogcneilaeaaa
