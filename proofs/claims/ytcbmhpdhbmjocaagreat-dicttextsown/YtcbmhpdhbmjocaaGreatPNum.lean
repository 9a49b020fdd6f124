/-
  The program's own: bytes' number, counts, a number in its place.
-/
import Derived.Test.YtcbmhpdhbmjocaaGreatPLow
namespace Go.Proofs.YtcbmhpdhbmjocaaGreat
open Go.RowKit Cu

theorem ofL_take_next {l : List Nat} {i : Nat} (hi : i < l.length) : unfx (l.take (i + 1)) = unfx (l.take i) + 256 ^ i * ofL l i := by
  rw [List.take_add_one, ofL_in hi, unfx_app, List.length_take, Nat.min_eq_left (by omega)]
  simp [unfx]
theorem or_val {u x i : Nat} (hu : u < 256 ^ i) (hx : x < 256) (hi : i < 8) : bits BinOp.or IntKind.u64 (u : Int) (IntKind.u64.wrap ((x : Int) * 2 ^ (8 * i))) = ((u + 256 ^ i * x : Nat) : Int) := by
  have e0 : (256 : Nat) ^ i = 2 ^ (8 * i) := by rw [Nat.pow_mul]
  have e1 : (2 : Int) ^ (8 * i) = ((2 ^ (8 * i) : Nat) : Int) := by simp
  have hle : 2 ^ (8 * i) * 256 ≤ 18446744073709551616 := by
    have : 2 ^ (8 * i) ≤ 2 ^ 56 := Nat.pow_le_pow_right (by omega) (by omega)
    omega
  have hm : x * 2 ^ (8 * i) < 18446744073709551616 := by
    have : x * 2 ^ (8 * i) < 256 * 2 ^ (8 * i) := Nat.mul_lt_mul_of_pos_right hx (Nat.pos_of_ne_zero (by simp))
    omega
  have hp : 2 ^ (8 * i) ≤ 18446744073709551616 := by omega
  rw [e0] at hu ⊢
  have e2 : IntKind.u64.wrap ((x : Int) * 2 ^ (8 * i)) = ((x * 2 ^ (8 * i) : Nat) : Int) := by
    rw [e1, IntKind.wrap_u64, ← Int.natCast_mul]
    omega
  rw [e2, u64_or_nat _ _ (by omega) hm]
  congr 1
  rw [Nat.mul_comm x, Nat.or_comm, ← Nat.two_pow_add_eq_or_of_lt hu, Nat.add_comm]
theorem unfx_take_lt {l : List Nat} (h : ∀ c ∈ l, c < 256) (i : Nat) (hi : i ≤ l.length) : unfx (l.take i) < 256 ^ i := by
  have := unfx_lt (l.take i) (fun c hc => h c (List.mem_of_mem_take hc))
  rwa [List.length_take, Nat.min_eq_left hi] at this
set_option maxRecDepth 4000 in
set_option maxHeartbeats 2000000 in
theorem number_any (a : Option Addr) (l : List Nat) (c : Nat) (w : World) (hA : Bytes w a l) (hb : ∀ x ∈ l, x < 256) (hl : l.length ≤ 8) :
    Calls Tryz.prog 81 #[.slice a l.length c] w fun e w' => e = .returned (.int .u64 (unfx l : Nat)) ∧ w' = w := by
  have HA := hid hA
  have HB := hid hb
  clear hA hb
  go_enter Tryz.func81, Tryz.ntmps81
  go_wp2_with fail
  go_loopw [3, 8] (fun x y wr => ∃ i u : Nat, i ≤ l.length ∧ y = .int .i64 (i : Int) ∧ x = .int .u64 (u : Int) ∧ Hid (u = unfx (l.take i)) ∧ wr = w) (fun _ y _ => l.length - (intOf y).toNat)
  case atStart => exact ⟨0, 0, Nat.zero_le _, rfl, rfl, rfl, rfl⟩
  case round =>
    obtain ⟨i, u, hi, rfl, rfl, HU, hwr⟩ := hrel
    subst hwr
    by_cases hlt : i < l.length
    · have hii : (i : Int) < (l.length : Int) := by omega
      obtain ⟨g, o, rfl, hg, hc⟩ := HA.out i hlt
      have hx : ofL l i < 256 := ofL_lt (by omega) HB.out i
      have h1 := unfx_take_lt HB.out i (by omega)
      rw [← HU.out] at h1
      have HV := hid (or_val (i := i) h1 hx (by omega))
      have HN : Hid (u + 256 ^ i * ofL l i = unfx (l.take (i + 1))) := by show _ = _; rw [ofL_take_next hlt, HU.out]
      generalize ofL l i = x at *
      clear h1 HU
      go_wp2_with fail
      exact ⟨⟨i + 1, u + 256 ^ i * x, by omega, by go_num, by rw [HV.out], HN, by first | trivial | rfl⟩, by simp [intOf]; omega⟩
    · obtain rfl : i = l.length := by omega
      go_wp2_with fail
      go_ret
      have e := HU.out
      rw [List.take_of_length_le (Nat.le_refl _)] at e
      rw [← e]
      exact ⟨rfl, rfl⟩
set_option maxHeartbeats 1000000 in
theorem mayCount_any (n : Int) (w : World) : Calls Tryz.prog 52 #[.int .i64 n] w fun e w' => e = .returned (.int .i64 (mayE n : Nat)) ∧ w' = w := by
  unfold mayE
  by_cases h1 : n < 0
  · rw [if_pos h1]
    go_enter Tryz.func52, Tryz.ntmps52
    go_wp2_with fail
    go_ret
    exact ⟨rfl, rfl⟩
  · rw [if_neg h1]
    have h1' : 0 ≤ n := by omega
    by_cases h2 : 16777216 < n
    · rw [if_pos h2]
      go_enter Tryz.func52, Tryz.ntmps52
      go_wp2_with fail
      go_ret
      exact ⟨rfl, rfl⟩
    · rw [if_neg h2]
      have h2' : n ≤ 16777216 := by omega
      go_enter Tryz.func52, Tryz.ntmps52
      go_wp2_with fail
      go_ret
      exact ⟨rfl, rfl⟩
def manyE (h n : Nat) : Nat := if h < n then 71 else if n < h then 72 else 0
set_option maxHeartbeats 1000000 in
theorem justAsMany_any (a : Option Addr) (h c n : Nat) (w : World) (hh : h < 9223372036854775808) : Calls Tryz.prog 55 #[.slice a h c, .int .u64 (n : Int)] w fun e w' => e = .returned (.int .i64 (manyE h n : Nat)) ∧ w' = w := by
  unfold manyE
  by_cases h1 : h < n
  · rw [if_pos h1]
    have h1' : (h : Int) < (n : Int) := by omega
    go_enter Tryz.func55, Tryz.ntmps55
    go_wp2_with fail
    go_ret
    exact ⟨rfl, rfl⟩
  · rw [if_neg h1]
    have h1' : (n : Int) ≤ (h : Int) := by omega
    by_cases h2 : n < h
    · rw [if_pos h2]
      have h2' : (n : Int) < (h : Int) := by omega
      go_enter Tryz.func55, Tryz.ntmps55
      go_wp2_with fail
      go_ret
      exact ⟨rfl, rfl⟩
    · rw [if_neg h2]
      have h2' : (h : Int) ≤ (n : Int) := by omega
      go_enter Tryz.func55, Tryz.ntmps55
      go_wp2_with fail
      go_ret
      exact ⟨rfl, rfl⟩
set_option maxHeartbeats 1000000 in
theorem endsSize_any (n : Nat) (w : World) (hn : n ≤ 16777216) : Calls Tryz.prog 47 #[.int .i64 (n : Int)] w fun e w' => e = .returned (.int .i64 (4 * (n + 1) : Nat)) ∧ w' = w := by
  go_enter Tryz.func47, Tryz.ntmps47
  go_wp2_with fail
  go_ret
  exact ⟨ret_int (by go_num), rfl⟩
theorem bytes_sub {w : World} {b o : Nat} {l : List Nat} (h : Bytes w (some ⟨b, o, none⟩) l) {t n : Nat} (hn : t + n ≤ l.length) : Bytes w (some ⟨b, o + t, none⟩) ((l.drop t).take n) := fun j hj => by
  rw [List.length_take, List.length_drop] at hj
  obtain ⟨g, o', e, hg, hc⟩ := h (t + j) (by omega)
  cases e
  refine ⟨b, o + t, rfl, hg, ?_⟩
  rw [Nat.add_assoc]
  rw [hc]
  have e1 : ((l.drop t).take n)[j]? = l[t + j]? := by rw [List.getElem?_take, if_pos (by omega), List.getElem?_drop]
  have e2 : ofL ((l.drop t).take n) j = ofL l (t + j) := by
    unfold ofL
    rw [List.getD_eq_getElem?_getD, List.getD_eq_getElem?_getD, e1]
  rw [e2]
theorem sub_len {l : List Nat} {t n : Nat} (hn : t + n ≤ l.length) : ((l.drop t).take n).length = n := by rw [List.length_take, List.length_drop]; omega
theorem sub_lt {l : List Nat} (h : ∀ x ∈ l, x < 256) (t n : Nat) : ∀ x ∈ (l.drop t).take n, x < 256 := fun x hx => h x (List.mem_of_mem_drop (List.mem_of_mem_take hx))
theorem toi_wrap {u : Nat} (hu : u < 18446744073709551616) : wrap64 (u : Int) = toi u := by
  unfold toi wrap64
  split <;> omega
theorem tou_wrap (x : Int) : IntKind.u64.wrap x = ((tou x : Nat) : Int) := by
  rw [IntKind.wrap_u64]
  unfold tou
  omega
set_option maxRecDepth 4000 in
set_option maxHeartbeats 2000000 in
theorem intAt_any (a : Option Addr) (l : List Nat) (c i : Nat) (w : World) (hA : Bytes w a l) (hb : ∀ x ∈ l, x < 256) (hi : 8 * (i + 1) ≤ l.length) (hc : l.length ≤ c) (hm : c ≤ 9223372036854775807) :
    Calls Tryz.prog 62 #[.slice a l.length c, .int .i64 (i : Int)] w fun e w' => e = .returned (.int .i64 (toi (numAt 8 l i))) ∧ w' = w := by
  obtain ⟨g, o, rfl, _⟩ := hA 0 (by omega)
  have hlen := sub_len (l := l) (t := 8 * i) (n := 8) (by omega)
  have HN := hid (number_any (some ⟨g, o + 8 * i, none⟩) _ (c - 8 * i) w (bytes_sub hA (t := 8 * i) (n := 8) (by omega)) (sub_lt hb (8 * i) 8) (by rw [hlen]; omega))
  rw [hlen] at HN
  have hu := numAt_lt hb 8 i
  have HE : Hid (unfx ((l.drop (8 * i)).take 8) = numAt 8 l i) := rfl
  rw [HE.out] at HN
  have HT := hid (toi_wrap (show numAt 8 l i < 18446744073709551616 from hu))
  generalize numAt 8 l i = u at *
  have e1 : (i : Int) * 8 = ((8 * i : Nat) : Int) := by omega
  obtain ⟨k, hk⟩ : ∃ k, 8 * i = k := ⟨_, rfl⟩
  rw [hk] at HN e1
  have hk1 : k + 8 ≤ l.length := by omega
  have hk2 : k + 8 ≤ c := by omega
  have hk3 : k < c := by omega
  have hk4 : ¬ c = k := by omega
  clear HE hA hlen hk
  go_enter Tryz.func62, Tryz.ntmps62
  go_wp2_with (go_at_call 81; refine HN.out.mono ?_; rintro e w2 ⟨rfl, rfl⟩)
  go_ret
  exact ⟨ret_int HT.out, rfl⟩
end Go.Proofs.YtcbmhpdhbmjocaaGreat
