import Derived.Test.YtcjpnlcjphdlgaaDoorBNone
import Derived.Test.YtcjpnlcjphdlgaaDoorBPop
namespace Go.Proofs.YtcjpnlcjphdlgaaDoor.Bt
open Go.RowKit

theorem u64_left (n : Int) (h0 : 0 ≤ n) (h1 : n < 18446744073709551616) : IntKind.u64.wrap n = n := by rw [IntKind.wrap_u64]; omega
theorem rep85 : rep 85 8 = 6148914691236517205 := by decide
theorem rep51 : rep 51 8 = 3689348814741910323 := by decide
theorem rep15 : rep 15 8 = 1085102592571150095 := by decide

theorem ones1 (x : Nat) (hx : x < 18446744073709551616) : IntKind.u64.wrap (bits .and .u64 ((x : Int) / 2) 6148914691236517205 + bits .and .u64 (x : Int) 6148914691236517205) = ((s1 8 x : Nat) : Int) := by
  have a := bits_and_u64_nat (x / 2) 6148914691236517205 (by omega) (by omega)
  have b := bits_and_u64_nat x 6148914691236517205 (by omega) (by omega)
  have c : ((x / 2 : Nat) : Int) = (x : Int) / 2 := by omega
  have l1 := Nat.and_le_right (n := x / 2) (m := 6148914691236517205)
  have l2 := Nat.and_le_right (n := x) (m := 6148914691236517205)
  rw [c] at a
  rw [show (6148914691236517205 : Int) = ((6148914691236517205 : Nat) : Int) from rfl, a, b, u64_left _ (by omega) (by omega)]
  unfold s1
  rw [rep85]
  omega
theorem s1_le (x : Nat) : s1 8 x ≤ 12297829382473034410 := by
  have l1 := Nat.and_le_right (n := x / 2) (m := rep 85 8)
  have l2 := Nat.and_le_right (n := x) (m := rep 85 8)
  rw [rep85] at l1 l2
  unfold s1; rw [rep85]; omega
theorem ones2 (x : Nat) (hx : x < 18446744073709551616) : IntKind.u64.wrap (bits .and .u64 ((x : Int) / 4) 3689348814741910323 + bits .and .u64 (x : Int) 3689348814741910323) = ((s2 8 x : Nat) : Int) := by
  have a := bits_and_u64_nat (x / 4) 3689348814741910323 (by omega) (by omega)
  have b := bits_and_u64_nat x 3689348814741910323 (by omega) (by omega)
  have c : ((x / 4 : Nat) : Int) = (x : Int) / 4 := by omega
  have l1 := Nat.and_le_right (n := x / 4) (m := 3689348814741910323)
  have l2 := Nat.and_le_right (n := x) (m := 3689348814741910323)
  rw [c] at a
  rw [show (3689348814741910323 : Int) = ((3689348814741910323 : Nat) : Int) from rfl, a, b, u64_left _ (by omega) (by omega)]
  unfold s2
  rw [rep51]
  omega
theorem s2_le (x : Nat) : s2 8 x ≤ 7378697629483820646 := by
  have l1 := Nat.and_le_right (n := x / 4) (m := rep 51 8)
  have l2 := Nat.and_le_right (n := x) (m := rep 51 8)
  rw [rep51] at l1 l2
  unfold s2; rw [rep51]; omega
theorem ones3 (x : Nat) (hx : x ≤ 7378697629483820646) : bits .and .u64 (IntKind.u64.wrap ((x : Int) / 16 + (x : Int))) 1085102592571150095 = ((s3 8 x : Nat) : Int) := by
  have a := bits_and_u64_nat (x / 16 + x) 1085102592571150095 (by omega) (by omega)
  have c : ((x / 16 + x : Nat) : Int) = (x : Int) / 16 + (x : Int) := by omega
  rw [c] at a
  rw [u64_left _ (by omega) (by omega), show (1085102592571150095 : Int) = ((1085102592571150095 : Nat) : Int) from rfl, a]
  unfold s3
  rw [rep15]

/-- What the walk comes by, step by step. -/
theorem ones_steps (x : Nat) (hx : x < 18446744073709551616) : ∃ y1 y2 y3 y4 y5 y6 : Nat,
    IntKind.u64.wrap (bits .and .u64 ((x : Int) / 2) 6148914691236517205 + bits .and .u64 (x : Int) 6148914691236517205) = (y1 : Int) ∧
    IntKind.u64.wrap (bits .and .u64 ((y1 : Int) / 4) 3689348814741910323 + bits .and .u64 (y1 : Int) 3689348814741910323) = (y2 : Int) ∧
    bits .and .u64 (IntKind.u64.wrap ((y2 : Int) / 16 + (y2 : Int))) 1085102592571150095 = (y3 : Int) ∧
    IntKind.u64.wrap ((y3 : Int) + (y3 : Int) / 256) = (y4 : Int) ∧ IntKind.u64.wrap ((y4 : Int) + (y4 : Int) / 65536) = (y5 : Int) ∧
    IntKind.u64.wrap ((y5 : Int) + (y5 : Int) / 4294967296) = (y6 : Int) ∧ y6 % 128 = pop x ∧ y6 < 4611686018427387904 := by
  obtain ⟨y3, h3⟩ : ∃ y, y = s123 8 x := ⟨_, rfl⟩
  obtain ⟨y4, h4⟩ : ∃ y, y = y3 + y3 / 256 := ⟨_, rfl⟩
  obtain ⟨y5, h5⟩ : ∃ y, y = y4 + y4 / 65536 := ⟨_, rfl⟩
  obtain ⟨y6, h6⟩ : ∃ y, y = y5 + y5 / 4294967296 := ⟨_, rfl⟩
  obtain ⟨hp, hl⟩ := ones_fold x y3 y4 y5 y6 h3 h4 h5 h6
  have l4 : y4 ≤ 600000000000000000 := by omega
  have l5 : y5 ≤ 700000000000000000 := by clear hp h6; omega
  have l6 : y6 ≤ 800000000000000000 := by clear hp; omega
  refine ⟨s1 8 x, s2 8 (s1 8 x), y3, y4, y5, y6, ones1 x hx, ones2 _ (by have := s1_le x; omega), ?_, ?_, ?_, ?_, hp, by omega⟩
  · rw [h3]; exact ones3 _ (s2_le _)
  · rw [u64_left _ (by omega) (by omega)]; omega
  · rw [u64_left _ (by omega) (by omega)]; omega
  · rw [u64_left _ (by omega) (by omega)]; omega

set_option maxHeartbeats 400000 in
theorem ones_any (x : Nat) (w : World) (hx : x < 18446744073709551616) : Calls Tryd.prog 95 #[.int .u64 (x : Int)] w fun e w' => e = .returned (.int .i64 (pop x : Int)) ∧ w' = w := by
  obtain ⟨y1, y2, y3, y4, y5, y6, h1, h2, h3, h4, h5, h6, hp, hl⟩ := ones_steps x hx
  have HP : Hid (y6 % 128 = pop x) := hp
  clear hp hx
  go_enter Tryd.func95, Tryd.ntmps95
  go_wp2
  go_ret
  exact ⟨ret_int (by rw [i64_and127, ← HP.out]; omega), rfl⟩
end Go.Proofs.YtcjpnlcjphdlgaaDoor.Bt
