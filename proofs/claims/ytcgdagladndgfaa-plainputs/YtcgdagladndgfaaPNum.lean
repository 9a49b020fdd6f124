/-
  The program's own: bytes' number, counts, a number in its place.
-/
import Derived.Test.YtcgdagladndgfaaPLow
namespace Go.Proofs.Ytcgdagladndgfaa
open Go.RowKit Cu

theorem ofL_take_next {l : List Nat} {i : Nat} (hi : i < l.length) : unfx (l.take (i + 1)) = unfx (l.take i) + 256 ^ i * ofL l i := by
  rw [List.take_add_one, ofL_in hi, unfx_app, List.length_take, Nat.min_eq_left (by omega)]
  simp [unfx]
theorem or_val {u x i : Nat} (hu : u < 256 ^ i) (hx : x < 256) (hi : i < 8) : bits BinOp.or IntKind.u64 (u : Int) (IntKind.u64.wrap ((x : Int) * 2 ^ (8 * i))) = ((u + 256 ^ i * x : Nat) : Int) := by
  have e0 : (256 : Nat) ^ i = 2 ^ (8 * i) := by rw [Nat.pow_mul]
  have e1 : (2 : Int) ^ (8 * i) = ((2 ^ (8 * i) : Nat) : Int) := by simp
  have hle : 2 ^ (8 * i) * 256 ≤ 18446744073709551616 := by
    have : 2 ^ (8 * i) ≤ 2 ^ 56 := Nat.pow_le_pow_right (by omega) (by omega)
    omega
  have hm : x * 2 ^ (8 * i) < 18446744073709551616 := by
    have : x * 2 ^ (8 * i) < 256 * 2 ^ (8 * i) := Nat.mul_lt_mul_of_pos_right hx (Nat.pos_of_ne_zero (by simp))
    omega
  have hp : 2 ^ (8 * i) ≤ 18446744073709551616 := by omega
  rw [e0] at hu ⊢
  have e2 : IntKind.u64.wrap ((x : Int) * 2 ^ (8 * i)) = ((x * 2 ^ (8 * i) : Nat) : Int) := by
    rw [e1, IntKind.wrap_u64, ← Int.natCast_mul]
    omega
  rw [e2, u64_or_nat _ _ (by omega) hm]
  congr 1
  rw [Nat.mul_comm x, Nat.or_comm, ← Nat.two_pow_add_eq_or_of_lt hu, Nat.add_comm]
theorem unfx_take_lt {l : List Nat} (h : ∀ c ∈ l, c < 256) (i : Nat) (hi : i ≤ l.length) : unfx (l.take i) < 256 ^ i := by
  have := unfx_lt (l.take i) (fun c hc => h c (List.mem_of_mem_take hc))
  rwa [List.length_take, Nat.min_eq_left hi] at this
def manyE (h n : Nat) : Nat := if h < n then 71 else if n < h then 72 else 0
set_option maxHeartbeats 1000000 in
theorem endsSize_any (n : Nat) (w : World) (hn : n ≤ 16777216) : Calls Try.prog 15 #[.int .i64 (n : Int)] w fun e w' => e = .returned (.int .i64 (4 * (n + 1) : Nat)) ∧ w' = w := by
  go_enter Try.func15, Try.ntmps15
  go_wp2_with fail
  go_ret
  exact ⟨ret_int (by go_num), rfl⟩
theorem bytes_sub {w : World} {b o : Nat} {l : List Nat} (h : Bytes w (some ⟨b, o, none⟩) l) {t n : Nat} (hn : t + n ≤ l.length) : Bytes w (some ⟨b, o + t, none⟩) ((l.drop t).take n) := fun j hj => by
  rw [List.length_take, List.length_drop] at hj
  obtain ⟨g, o', e, hg, hc⟩ := h (t + j) (by omega)
  cases e
  refine ⟨b, o + t, rfl, hg, ?_⟩
  rw [Nat.add_assoc]
  rw [hc]
  have e1 : ((l.drop t).take n)[j]? = l[t + j]? := by rw [List.getElem?_take, if_pos (by omega), List.getElem?_drop]
  have e2 : ofL ((l.drop t).take n) j = ofL l (t + j) := by
    unfold ofL
    rw [List.getD_eq_getElem?_getD, List.getD_eq_getElem?_getD, e1]
  rw [e2]
theorem sub_len {l : List Nat} {t n : Nat} (hn : t + n ≤ l.length) : ((l.drop t).take n).length = n := by rw [List.length_take, List.length_drop]; omega
theorem sub_lt {l : List Nat} (h : ∀ x ∈ l, x < 256) (t n : Nat) : ∀ x ∈ (l.drop t).take n, x < 256 := fun x hx => h x (List.mem_of_mem_drop (List.mem_of_mem_take hx))
theorem toi_wrap {u : Nat} (hu : u < 18446744073709551616) : wrap64 (u : Int) = toi u := by
  unfold toi wrap64
  split <;> omega
theorem tou_wrap (x : Int) : IntKind.u64.wrap x = ((tou x : Nat) : Int) := by
  rw [IntKind.wrap_u64]
  unfold tou
  omega
end Go.Proofs.Ytcgdagladndgfaa
