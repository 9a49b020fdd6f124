/-
  There and back: what the calls say of lanes that were packed.
-/
import Derived.Test.YtijoamhfmophmabPackU64
import Derived.Test.YtijoamhfmophmabFit
import Derived.Test.YtijoamhfmophmabAwake
namespace Go.Proofs.Ytijoamhfmophmab
open Go.RowKit

theorem packed_byt (m k : Nat) (G : Nat → Nat) : Byt ((m * k + 7) / 8) (byt (laneB m k G)) :=
  ⟨byt_lt _, fun j hj => wordOf_none 8 fun t _ => laneB_out (by omega)⟩
theorem packed_end (m k : Nat) (G : Nat → Nat) : wordZ (bitB (byt (laneB m k G))) ((m * k : Nat) : Int) = 0 := by
  rw [bitB_byt]
  refine wordZ_none fun t _ => ?_
  unfold bitZ
  rw [laneB_out (by omega)]; simp
theorem packed_lane {m k i : Nat} {G : Nat → Nat} (hi : i < m) (hG : G i < 2 ^ k) : laneOf (bitB (byt (laneB m k G))) k i = G i := by
  rw [bitB_byt, laneOf_laneB hi hG]
theorem packed_is {m k i : Nat} (hk : k ≤ 64) (hi : i < m) : atIs ((m * k + 7) / 8) (k : Int) (i : Int) = true := by
  rw [atIs_in hk]
  rcases Nat.eq_zero_or_pos k with rfl | hp
  · simp
  · have h1 : (i + 1) * k ≤ m * k := Nat.mul_le_mul_right k hi
    have h2 : i + 1 ≤ 8 * ((m * k + 7) / 8) / k := (Nat.le_div_iff_mul_le hp).2 (by omega)
    simp; omega
theorem packed_at {m k i : Nat} {G : Nat → Nat} (hk : k ≤ 64) (hi : i < m) (hG : G i < 2 ^ k) : atV (byt (laneB m k G)) ((m * k + 7) / 8) (k : Int) (i : Int) = G i := by
  unfold atV
  rw [if_pos (packed_is hk hi), Int.toNat_natCast, Int.toNat_natCast, packed_lane hi hG]

/-- Pack of numbers that fit. -/
theorem packU64_ok (a0 : Option Addr) (n c k : Nat) (L : Nat → Nat) (w : World) (hn : n ≤ 16777216) (hk : k ≤ 64) (hL : ∀ j, L j < 18446744073709551616) (hN : Nums w .u64 a0 n L) (hf : ∀ i, i < n → L i < 2 ^ k) :
    Calls Try.prog 10 #[.slice a0 n c, .int .i64 (k : Int)] w fun e w' => e = .returned (.tuple #[.slice (some ⟨w.heap.size, 0, none⟩) ((n * k + 7) / 8) ((n * k + 7) / 8), .int .i64 0]) ∧ Blk w' w.heap.size 5 .u8 ((n * k + 7) / 8) ((n * k + 7) / 8) (byt (laneB n k L)) ∧ Below w.heap.size w w' := by
  refine (packU64_run a0 n c k L w hn hk hL hN).mono ?_
  rintro e w' ⟨h1, ⟨_, i, hi, hx⟩ | ⟨_, h2, h3⟩⟩
  · exact absurd (hf i hi) hx
  · exact ⟨h2, h3, h1⟩
/-- Unpack of what was packed. -/
theorem unpackU64_ok (a0 : Option Addr) (n c k : Nat) (L : Nat → Nat) (w : World) (hn : n ≤ 16777216) (hk : k ≤ 64) (hc : (n * k + 7) / 8 ≤ c) (hc2 : c ≤ 9223372036854775807) (hL : ∀ j, L j < 18446744073709551616) (hN : Nums w .u8 a0 ((n * k + 7) / 8) (byt (laneB n k L))) (hf : ∀ i, i < n → L i < 2 ^ k) :
    Calls Try.prog 8 #[.slice a0 ((n * k + 7) / 8) c, .int .i64 (k : Int), .int .i64 (n : Int)] w fun e w' => e = .returned (.tuple #[.slice (some ⟨w.heap.size, 0, none⟩) n n, .int .i64 0]) ∧ Blk w' w.heap.size 28 .u64 n n L ∧ Below w.heap.size w w' := by
  refine (unpackU64_run a0 c k n _ w hn hk hc hc2 (packed_byt n k L) hN (packed_end n k L)).mono ?_
  rintro e w' ⟨h1, ⟨_, i, hi, hx⟩ | ⟨_, h2, h3⟩⟩
  · rw [packed_lane hi (hf i hi)] at hx
    exact absurd (hL i) hx
  · exact ⟨h2, h3.ext fun j hj => packed_lane hj (hf j hj), h1⟩
end Go.Proofs.Ytijoamhfmophmab
