import Derived.Test.YtijoamhfmophmaaLen
import Derived.Below
namespace Go.Proofs.Ytijoamhfmophmaa
open Go.RowKit

set_option maxHeartbeats 1000000 in
theorem walk_packWidths (w : World) (v n width : Int) (hv : 0 ≤ v ∧ v < ((18446744073709551616 : Nat) : Int)) (_ : -9223372036854775808 ≤ n ∧ n ≤ 9223372036854775807) (_ : -9223372036854775808 ≤ width ∧ width ≤ 9223372036854775807) :
    Calls Try.prog 3 #[.int .u64 v, .int .i64 n, .int .i64 width] w fun e w' => e = .returned (.bool true) ∧ Below w.heap.size w w' := by
  obtain ⟨x, rfl⟩ : ∃ x : Nat, v = (x : Int) := ⟨v.toNat, by omega⟩
  have hx : x < 18446744073709551616 := by omega
  clear hv
  go_enter Try.func3, Try.ntmps3
  go_wp2_with (first | (go_at_call 9; refine (refBytes_any _ _ _).mono ?_; rintro e w' ⟨rfl, rfl⟩) | (go_at_call 10; refine (bytes_any _ _ _).mono ?_; rintro e w' ⟨rfl, rfl⟩) | (go_at_call 11; refine (width_any _ _ hx).mono ?_; rintro e w' ⟨rfl, rfl⟩) | (go_at_call 12; refine (refWidth_any _ _ hx).mono ?_; rintro e w' ⟨rfl, rfl⟩) | (go_at_call 13; refine (num_any _ _).mono ?_; rintro e w' ⟨rfl, rfl⟩))
  go_ret
  exact ⟨by simp, Below.refl _ _⟩
end Go.Proofs.Ytijoamhfmophmaa
