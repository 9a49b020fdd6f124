import Derived.Test.YtcjpnlcjphdlgaaDoorBOnes
namespace Go.Proofs.YtcjpnlcjphdlgaaDoor.Bt
open Go.RowKit

/-- The table of math/bits lies in its variable (block 0). -/
def Tab (w : World) : Prop := 0 < w.heap.size ∧ ∀ j, j < 64 → w.cell? ⟨0, j, none⟩ = some (.int .u8 (Lib.deBruijn64tab.getD j 0 : Int))
theorem Tab.later {w w' : World} {B : Nat} (h : Tab w) (hb : Below B w w') (hB : 0 < B) : Tab w' :=
  ⟨Nat.lt_of_lt_of_le h.1 hb.size, fun j hj => (hb.cell (p := ⟨0, j, none⟩) hB).trans (h.2 j hj)⟩

theorem tz_key (x a : Nat) (hx : x < 18446744073709551616) (hx0 : x ≠ 0) (hlow : x &&& (18446744073709551616 - x) = a) :
    IntKind.u64.wrap (bits BinOp.and IntKind.u64 (x : Int) (IntKind.u64.wrap (-(x : Int))) * 285870213051353865) / 288230376151711744 = ((a * 285870213051353865 % 18446744073709551616 / 288230376151711744 : Nat) : Int) := by
  have e1 : IntKind.u64.wrap (-(x : Int)) = ((18446744073709551616 - x : Nat) : Int) := by rw [IntKind.wrap_u64]; omega
  rw [e1, bits_and_u64_nat x _ hx (by omega), hlow, IntKind.wrap_u64]
  omega

set_option maxHeartbeats 1000000 in
theorem tz_walk (x k idx : Nat) (w : World) (hx0 : ((x : Int) == 0) = false)
    (key : IntKind.u64.wrap (bits BinOp.and IntKind.u64 (x : Int) (IntKind.u64.wrap (-(x : Int))) * 285870213051353865) / 288230376151711744 = (idx : Int))
    (hi : idx < 64) (hk : k < 64) (hcell : w.cell? ⟨0, idx, none⟩ = some (.int .u8 k)) :
    Calls Tryd.prog 109 #[.int .u64 x] w fun e w' => e = .returned (.int .i64 k) ∧ w' = w := by
  go_enter Tryd.func109, Tryd.ntmps109
  go_wp2_with (simp only [key])
  go_ret
  exact ⟨rfl, rfl⟩

theorem tz_any (x : Nat) (w : World) (hT : Tab w) (hx : x < 18446744073709551616) (hx0 : x ≠ 0) :
    Calls Tryd.prog 109 #[.int .u64 (x : Int)] w fun e w' => e = .returned (.int .i64 (Lib.ctz 64 x : Int)) ∧ w' = w := by
  obtain ⟨hlow, hk⟩ := Lib.lowest_bit 64 x hx0 hx
  obtain ⟨hi, htab⟩ := Lib.deBruijn64_at _ hk
  refine tz_walk x (Lib.ctz 64 x) _ w ?_ (tz_key x _ hx hx0 hlow) hi hk ?_
  · rw [beq_eq_false_iff_ne]; omega
  · rw [hT.2 _ hi, htab]

set_option maxHeartbeats 400000 in
theorem without_any (x : Nat) (w : World) (hx : x < 18446744073709551616) (hx0 : x ≠ 0) :
    Calls Tryd.prog 108 #[.int .u64 (x : Int)] w fun e w' => e = .returned (.int .u64 ((x &&& (x - 1) : Nat) : Int)) ∧ w' = w := by
  have h1 : IntKind.u64.wrap ((x : Int) - 1) = ((x - 1 : Nat) : Int) := by rw [u64_left _ (by omega) (by omega)]; omega
  have h2 := bits_and_u64_nat x (x - 1) hx (by omega)
  generalize x &&& (x - 1) = y at *
  generalize x - 1 = z at *
  clear hx hx0
  go_enter Tryd.func108, Tryd.ntmps108
  go_wp2
  go_ret
  exact ⟨rfl, rfl⟩

theorem pow_cast (k : Nat) : (2 : Int) ^ k = ((2 ^ k : Nat) : Int) := by simp
theorem pow_le64 {k : Nat} (hk : k < 64) : 2 ^ k ≤ 9223372036854775808 := Nat.pow_le_pow_right (show 2 > 0 by omega) (show k ≤ 63 by omega)
theorem pow_wrap (k : Nat) (hk : k < 64) : IntKind.u64.wrap ((2 : Int) ^ k) = ((2 ^ k : Nat) : Int) := by
  have h := pow_le64 hk
  rw [pow_cast]
  generalize 2 ^ k = p at *
  rw [u64_left _ (by omega) (by omega)]
theorem mask_wrap (k : Nat) (hk : k ≤ 64) : IntKind.u64.wrap (IntKind.u64.wrap ((2 : Int) ^ k) - 1) = ((2 ^ k - 1 : Nat) : Int) := by
  by_cases h : k = 64
  · subst h; decide
  · have h2 := pow_le64 (show k < 64 by omega)
    have h3 := Nat.two_pow_pos k
    rw [pow_wrap k (by omega)]
    generalize 2 ^ k = p at *
    rw [u64_left _ (by omega) (by omega)]
    omega
/-- How many bits of the last word are numbers'. -/
def used (n : Nat) : Nat := n - (wordsOf n - 1) * 64

set_option maxHeartbeats 400000 in
theorem bitOf_any (i : Nat) (w : World) (hi : i ≤ 16777216) :
    Calls Tryd.prog 59 #[.int .i64 (i : Int)] w fun e w' => e = .returned (.int .u64 ((2 ^ (i % 64) : Nat) : Int)) ∧ w' = w := by
  go_enter Tryd.func59, Tryd.ntmps59
  go_wp2
  go_ret
  exact ⟨ret_int (pow_wrap _ (by omega)), rfl⟩
set_option maxHeartbeats 400000 in
theorem lastMask_any (n : Nat) (w : World) (h0 : 0 < n) (h1 : n ≤ 16777216) :
    Calls Tryd.prog 70 #[.int .i64 (n : Int)] w fun e w' => e = .returned (.int .u64 ((2 ^ used n - 1 : Nat) : Int)) ∧ w' = w := by
  go_enter Tryd.func70, Tryd.ntmps70
  go_wp2_with (go_at_call 69; refine (wordsFor_any _ _ (by omega) (by omega)).mono ?_; rintro e w' ⟨rfl, rfl⟩)
  go_ret
  exact ⟨ret_int (mask_wrap (n - ((n + 63) / 64 - 1) * 64) (by omega)), rfl⟩

set_option maxHeartbeats 400000 in
theorem and1_any (x y : Nat) (w : World) (hx : x < 18446744073709551616) (hy : y < 18446744073709551616) :
    Calls Tryd.prog 62 #[.int .u64 (x : Int), .int .u64 (y : Int)] w fun e w' => e = .returned (.int .u64 ((x &&& y : Nat) : Int)) ∧ w' = w := by
  have h := u64_and_nat x y hx hy
  generalize x &&& y = z at *
  clear hx hy
  go_enter Tryd.func62, Tryd.ntmps62
  go_wp2
  go_ret
  exact ⟨rfl, rfl⟩
set_option maxHeartbeats 400000 in
theorem or1_any (x y : Nat) (w : World) (hx : x < 18446744073709551616) (hy : y < 18446744073709551616) :
    Calls Tryd.prog 63 #[.int .u64 (x : Int), .int .u64 (y : Int)] w fun e w' => e = .returned (.int .u64 ((x ||| y : Nat) : Int)) ∧ w' = w := by
  have h := u64_or_nat x y hx hy
  generalize x ||| y = z at *
  clear hx hy
  go_enter Tryd.func63, Tryd.ntmps63
  go_wp2
  go_ret
  exact ⟨rfl, rfl⟩
set_option maxHeartbeats 400000 in
theorem xor1_any (x y : Nat) (w : World) (hx : x < 18446744073709551616) (hy : y < 18446744073709551616) :
    Calls Tryd.prog 64 #[.int .u64 (x : Int), .int .u64 (y : Int)] w fun e w' => e = .returned (.int .u64 ((x ^^^ y : Nat) : Int)) ∧ w' = w := by
  have h := u64_xor_nat x y hx hy
  generalize x ^^^ y = z at *
  clear hx hy
  go_enter Tryd.func64, Tryd.ntmps64
  go_wp2
  go_ret
  exact ⟨rfl, rfl⟩
set_option maxHeartbeats 400000 in
theorem less1_any (x y : Nat) (w : World) (hx : x < 18446744073709551616) (hy : y < 18446744073709551616) :
    Calls Tryd.prog 65 #[.int .u64 (x : Int), .int .u64 (y : Int)] w fun e w' => e = .returned (.int .u64 ((x &&& (18446744073709551615 - y) : Nat) : Int)) ∧ w' = w := by
  have h := u64_andNot_nat x y hx hy
  generalize x &&& (18446744073709551615 - y) = z at *
  clear hx hy
  go_enter Tryd.func65, Tryd.ntmps65
  go_wp2
  go_ret
  exact ⟨rfl, rfl⟩

/-- The words of a slice. -/
theorem row_cell {w : World} {a0 : Option Addr} {ws : List Nat} (h : Row w (.slice a0 ws.length ws.length) ws) {k : Nat} (hk : k < ws.length) : ∃ g, a0 = some ⟨g, 0, none⟩ ∧ g < w.heap.size ∧ w.cell? ⟨g, k, none⟩ = some (.int .u64 (ws[k] : Int)) := by
  rcases h with ⟨_, rfl⟩ | ⟨g, he, hg⟩
  · simp at hk
  · cases he
    exact ⟨g, rfl, (Array.getElem?_eq_some_iff.1 hg).1, cell_of hg (by simp [wcells, hk])⟩

/-- The ones of some words. -/
def pops : List Nat → Nat
  | [] => 0
  | x :: r => pop x + pops r
theorem pops_snoc (l : List Nat) (x : Nat) : pops (l ++ [x]) = pops l + pop x := by
  induction l with
  | nil => simp [pops]
  | cons y r ih => simp [pops, ih]; omega
theorem pop_le (x : Nat) : pop x ≤ 64 := cnt_le _ _
theorem pops_le : ∀ l : List Nat, pops l ≤ 64 * l.length
  | [] => by simp [pops]
  | x :: r => by simp [pops]; have := pops_le r; have := pop_le x; omega

set_option maxHeartbeats 400000 in
theorem countOf_any (a0 : Option Addr) (c : Nat) (us : List Nat) (m : Nat) (w : World) (hr : ∀ k, (h : k < m) → ∃ g o, a0 = some ⟨g, o, none⟩ ∧ w.cell? ⟨g, o + k, none⟩ = some (.int .u64 (us.getD k 0 : Int))) (hm : m ≤ 262144) (hlt : ∀ k, us.getD k 0 < 18446744073709551616) (hl : us.length = m) :
    Calls Tryd.prog 60 #[.slice a0 m c] w fun e w' => e = .returned (.int .i64 (pops us : Int)) ∧ w' = w := by
  have HR : Hid (∀ k, (h : k < m) → ∃ g o, a0 = some ⟨g, o, none⟩ ∧ w.cell? ⟨g, o + k, none⟩ = some (.int .u64 (us.getD k 0 : Int))) := hr
  have HL : Hid (us.length = m) := hl
  have HT : Hid (∀ k, us.getD k 0 < 18446744073709551616) := hlt
  clear hr hl hlt
  go_enter Tryd.func60, Tryd.ntmps60
  go_wp2
  go_loop [3, 8] (fun n i => ∃ k : Nat, k ≤ m ∧ i = .int .i64 k ∧ n = .int .i64 (pops (us.take k) : Int)) (fun _ i => m - (intOf i).toNat)
  case atStart => exact ⟨0, Nat.zero_le _, rfl, rfl⟩
  case round =>
    obtain ⟨k, hk, rfl, rfl⟩ := hrel
    by_cases hlt : k < m
    · obtain ⟨g, o, rfl, hc⟩ := HR.out k hlt
      have hlen := HL.out
      have hs : us.take (k + 1) = us.take k ++ [us.getD k 0] := by
        rw [List.take_succ_eq_append_getElem (by omega), List.getD_eq_getElem?_getD, List.getElem?_eq_getElem (by omega)]; rfl
      have hle := pops_le (us.take k)
      have hle2 := pop_le (us.getD k 0)
      have hlk : (us.take k).length ≤ k := List.length_take_le _ _
      have HS : Hid (us.take (k + 1) = us.take k ++ [us.getD k 0]) := hs
      have hx := HT.out k
      clear hlen hs
      generalize us.getD k 0 = x at *
      generalize hpp : pops (us.take k) = pp at *
      have HPP : Hid (pops (us.take k) = pp) := hpp
      clear hpp
      go_wp2_with (go_at_call 95; refine (ones_any x _ hx).mono ?_; rintro e w' ⟨rfl, rfl⟩)
      go_round
      case rel => exact ⟨k + 1, by omega, by go_num, by rw [HS.out, pops_snoc, HPP.out]; go_num⟩
      case measure => simp [intOf]; omega
    · go_wp2
      go_ret
      exact ⟨ret_int (by rw [List.take_of_length_le (by have := HL.out; omega)]), rfl⟩
end Go.Proofs.YtcjpnlcjphdlgaaDoor.Bt
