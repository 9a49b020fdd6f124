/-
  Package wide: lifted, rounded.
-/
import Derived.Test.YtdfmaicmbnjilaaDoorWDiv
namespace Go.Proofs.YtdfmaicmbnjilaaDoor
open Go.RowKit Wd

theorem lift_lets {X Z z : Nat} (hZ : Z < 18446744073709551616) (hz : z ≤ 63) (hX : X * 2 ^ z < 18446744073709551616) :
    ∃ L1 u v : Nat, (Z : Int) / 2 ^ (64 - z) = (L1 : Int) ∧ bits BinOp.or IntKind.u64 ((X * 2 ^ z : Nat) : Int) (L1 : Int) = (u : Int) ∧ IntKind.u64.wrap ((Z : Int) * 2 ^ z) = (v : Int) ∧ (X * 18446744073709551616 + Z) * 2 ^ z = u * 18446744073709551616 + v ∧ L1 < 18446744073709551616 ∧ u < 18446744073709551616 ∧ v < 18446744073709551616 := by
  have hp : 2 ^ (64 - z) * 2 ^ z = 18446744073709551616 := by rw [← Nat.pow_add, show 64 - z + z = 64 by omega]
  have hp0 : 0 < 2 ^ z := Nat.two_pow_pos z
  have hL : Z / 2 ^ (64 - z) < 2 ^ z := by
    rw [Nat.div_lt_iff_lt_mul (Nat.two_pow_pos _), Nat.mul_comm, hp]; exact hZ
  have hs2 : 2 ^ z ≤ 9223372036854775808 := Nat.le_trans (Nat.pow_le_pow_right (by decide) hz) (by decide)
  have hX2 : X * 2 ^ z + 2 ^ z ≤ 18446744073709551616 := by
    rw [← hp] at hX ⊢
    have : X < 2 ^ (64 - z) := Nat.lt_of_mul_lt_mul_right hX
    have := Nat.mul_le_mul_right (2 ^ z) (show X + 1 ≤ 2 ^ (64 - z) from this)
    rw [Nat.add_mul] at this; omega
  have hsplit : Z * 2 ^ z = Z / 2 ^ (64 - z) * 18446744073709551616 + Z * 2 ^ z % 18446744073709551616 := by
    have e : Z * 2 ^ z / 18446744073709551616 = Z / 2 ^ (64 - z) := by
      rw [← hp, Nat.mul_comm (2 ^ (64 - z)), ← Nat.div_div_eq_div_mul, Nat.mul_div_cancel _ hp0]
    have := Nat.div_add_mod (Z * 2 ^ z) 18446744073709551616
    rw [e] at this
    omega
  refine ⟨Z / 2 ^ (64 - z), X * 2 ^ z + Z / 2 ^ (64 - z), Z * 2 ^ z % 18446744073709551616, ?_, ?_, ?_, ?_, by omega, by omega, Nat.mod_lt _ (by decide)⟩
  · rw [Int.natCast_ediv, Int.natCast_pow]; rfl
  · rw [u64_or_nat _ _ (by omega) (by omega), or_two hL]
  · rw [IntKind.wrap_u64, Int.natCast_emod, Int.natCast_mul, Int.natCast_pow]; rfl
  · rw [Nat.add_mul, Nat.mul_right_comm]
    conv => lhs; rw [hsplit]
    omega
theorem half_lets {u v : Nat} (hv : v < 18446744073709551616) :
    ∃ a b : Nat, IntKind.u64.wrap ((u : Int) * 9223372036854775808) = (a : Int) ∧ bits BinOp.or IntKind.u64 (a : Int) ((v / 2 : Nat) : Int) = (b : Int) ∧ b = (u * 18446744073709551616 + v) / 2 % 18446744073709551616 ∧ a < 18446744073709551616 := by
  have ha : u % 2 * 9223372036854775808 < 18446744073709551616 := by omega
  refine ⟨u % 2 * 9223372036854775808, u % 2 * 9223372036854775808 + v / 2, ?_, ?_, ?_, ha⟩
  · rw [IntKind.wrap_u64]; omega
  · rw [u64_or_nat _ _ (by omega) (by omega)]
    congr 1
    have := @or_two (v / 2) (u % 2) 63 (by omega)
    simpa using this
  · omega
/-- How many zeros stand ahead of a number of 128 bits. -/
def lzN (N : Nat) : Nat := if N / 18446744073709551616 = 0 then 128 - Lib.bitLen N else 64 - Lib.bitLen (N / 18446744073709551616)
set_option maxRecDepth 8000 in
set_option maxHeartbeats 1600000 in
theorem lifted_any (H L : Nat) (hH : H < 18446744073709551616) (hL : L < 18446744073709551616) (h0 : 0 < H * 18446744073709551616 + L) (h l : Nat) (hh : h = (H * 18446744073709551616 + L) * 2 ^ lzN (H * 18446744073709551616 + L) / 2 / 18446744073709551616) (hl : l = (H * 18446744073709551616 + L) * 2 ^ lzN (H * 18446744073709551616 + L) / 2 % 18446744073709551616) (w : World) :
    Calls Tryd.prog 46 #[.int .u64 (H : Int), .int .u64 (L : Int)] w fun e w' => e = .returned (.tuple #[.int .u64 (h : Int), .int .u64 (l : Int), .int .i64 ((lzN (H * 18446744073709551616 + L) : Int) - 1)]) ∧ Below w.heap.size w w' := by
  by_cases c : H = 0
  · subst c
    rw [Nat.zero_mul, Nat.zero_add] at *
    obtain ⟨z1, z2, z3⟩ := lz_bounds h0 hL
    have zz := (bl_bounds 64 L (Nat.le_refl _) h0 (by simpa using hL)).1
    have CL := hid (lz_any L hL)
    have hlz : lzN L = 64 + (64 - Lib.bitLen L) := by unfold lzN; rw [if_pos (Nat.div_eq_of_lt hL)]; omega
    obtain ⟨z, hz⟩ : ∃ z, z = 64 - Lib.bitLen L := ⟨_, rfl⟩
    rw [← hz] at z2 z3 hlz
    have hz' : 64 - (Lib.bitLen L : Int) = (z : Int) := by omega
    rw [hz'] at CL
    have hz63 : z ≤ 63 := by omega
    obtain ⟨a, b, G1, G2, G3, G4⟩ := half_lets (u := L * 2 ^ z) (v := 0) (by decide)
    have F4 : IntKind.u64.wrap ((L : Int) * 2 ^ z) = ((L * 2 ^ z : Nat) : Int) := by
      rw [← wrapN z3, Int.natCast_mul, Int.natCast_pow]; rfl
    have F6 : bits BinOp.or IntKind.u64 ((L * 2 ^ z : Nat) : Int) 0 = ((L * 2 ^ z : Nat) : Int) := by
      rw [show (0 : Int) = ((0 : Nat) : Int) from rfl, u64_or_nat _ _ z3 (by decide), Nat.or_zero]
    have e1 : L * 2 ^ lzN L = L * 2 ^ z * 18446744073709551616 + 0 := by
      rw [hlz, Nat.pow_add, Nat.mul_comm (2 ^ 64), ← Nat.mul_assoc, show (2 : Nat) ^ 64 = 18446744073709551616 by decide, Nat.add_zero]
    rw [e1] at hh hl
    rw [← G3] at hl
    have hh2 : h = L * 2 ^ z / 2 := by rw [hh]; omega
    have eh : ((L * 2 ^ z : Nat) : Int) / 2 = (h : Int) := by omega
    rw [hlz]
    subst hl
    have eup : (64 : Int) + (z : Int) - 1 = ((64 + z : Nat) : Int) - 1 := by omega
    obtain ⟨up, hup⟩ : ∃ up, (64 : Int) + (z : Int) - 1 = up := ⟨_, rfl⟩
    rw [← eup, hup]
    have G2' : bits BinOp.or IntKind.u64 (a : Int) 0 = (l : Int) := G2
    have hb0 : ¬ (64 : Int) - (z : Int) < 0 := by omega
    have hsx : (64 : Int) + (z : Int) ≤ 9223372036854775807 := by omega
    generalize L * 2 ^ z = Xz at *
    clear hh hh2 e1 G3 G2 hz hz' hlz zz z1 z2 eup
    go_enter Tryd.func46, Tryd.ntmps46
    go_wp2_with (go_at_call 47; refine (CL.out _).mono ?_; rintro e w9 ⟨rfl, hw9⟩; subst w9)
    go_quiet (fail)
    go_wp2_with fail
    go_ret3
    exact ⟨rfl, below_drewN (Below.refl _ _) _⟩
  · have cH : ¬ (H : Int) = 0 := by omega
    obtain ⟨z1, z2, z3⟩ := lz_bounds (show 0 < H by omega) hH
    have zz := (bl_bounds 64 H (Nat.le_refl _) (by omega) (by simpa using hH)).1
    have CL := hid (lz_any H hH)
    have hlz : lzN (H * 18446744073709551616 + L) = 64 - Lib.bitLen H := by
      unfold lzN
      rw [show (H * 18446744073709551616 + L) / 18446744073709551616 = H by omega, if_neg c]
    obtain ⟨z, hz⟩ : ∃ z, z = 64 - Lib.bitLen H := ⟨_, rfl⟩
    rw [← hz] at z2 z3 hlz
    have hz' : 64 - (Lib.bitLen H : Int) = (z : Int) := by omega
    rw [hz'] at CL
    have hz63 : z ≤ 63 := by omega
    obtain ⟨L1, u, v, F5, F6, F7, F8, F9, F10, F11⟩ := lift_lets (X := H) hL hz63 z3
    obtain ⟨a, b, G1, G2, G3, G4⟩ := half_lets (u := u) F11
    have F4 : IntKind.u64.wrap ((H : Int) * 2 ^ z) = ((H * 2 ^ z : Nat) : Int) := by
      rw [← wrapN z3, Int.natCast_mul, Int.natCast_pow]; rfl
    rw [hlz] at hh hl ⊢
    rw [F8] at hh hl
    rw [← G3] at hl
    have hh2 : h = u / 2 := by rw [hh]; omega
    have eh : (u : Int) / 2 = (h : Int) := by omega
    obtain ⟨v2, hv2⟩ : ∃ v2, v2 = v / 2 := ⟨_, rfl⟩
    have ev : (v : Int) / 2 = (v2 : Int) := by omega
    rw [← hv2] at G2
    subst hl
    obtain ⟨up, hup⟩ : ∃ up, (z : Int) - 1 = up := ⟨_, rfl⟩
    rw [hup]
    have hb0 : ¬ (64 : Int) - (z : Int) < 0 := by omega
    have huw : IntKind.i64.wrap up = up := by rw [wrap_sw]; unfold sw; omega
    generalize H * 2 ^ z = Xz at *
    clear hh hh2 F8 G3 hz hz' hlz zz z1 z2 hv2
    go_enter Tryd.func46, Tryd.ntmps46
    go_wp2_with (go_at_call 47; refine (CL.out _).mono ?_; rintro e w9 ⟨rfl, hw9⟩; subst w9)
    go_quiet (fail)
    go_wp2_with fail
    go_ret3
    exact ⟨rfl, below_drewN (Below.refl _ _) _⟩
end Go.Proofs.YtdfmaicmbnjilaaDoor
