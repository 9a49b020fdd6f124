/-
  THE WALK OF LanesSpreads.
-/
import Derived.Test.YtoephmcmmbhnaaaLKnown
import Derived.Test.YtoephmcmmbhnaaaLRef
namespace Go.Proofs.Ytoephmcmmbhnaaa
open Go.RowKit Ln

set_option maxHeartbeats 1000000 in
theorem walk_lanesSpreads (w : World) (x0 x1 : Int) (h0 : 0 ≤ x0 ∧ x0 < ((18446744073709551616 : Nat) : Int)) (h1 : -9223372036854775808 ≤ x1 ∧ x1 ≤ 9223372036854775807) :
    Calls Try.prog 3 #[.int .u64 x0, .int .i64 x1] w fun e w' => e = .returned (.bool true) ∧ Below w.heap.size w w' := by
  obtain ⟨v, rfl⟩ : ∃ v : Nat, x0 = (v : Int) := ⟨x0.toNat, by omega⟩
  have hv : v < 18446744073709551616 := by omega
  have HR : Hid (∀ W, Calls Try.prog 9 #[.int .u64 (v : Int), .int .i64 x1] W fun e w' => e = .returned (.tuple #[.int .u64 (spV v x1 : Int), .int .i64 (spE v x1)]) ∧ w' = W) := fun W => refSpread_any v x1 W hv h1
  have HP : Hid (∀ W, Calls Try.prog 10 #[.int .u64 (v : Int), .int .i64 x1] W fun e w' => e = .returned (.tuple #[.int .u64 (spV v x1 : Int), .int .i64 (spE v x1)]) ∧ w' = W) := fun W => Spread_any v x1 W hv
  have HK : Hid (∀ W, Calls Try.prog 11 #[] W fun e w' => e = .returned (.bool true) ∧ Below W.heap.size W w') := fun W => known_yes W
  have hE : (spE v x1 == spE v x1) = true := by simp
  have hV : ((spV v x1 : Int) == (spV v x1 : Int)) = true := by simp
  generalize spV v x1 = V at *
  generalize spE v x1 = E at *
  go_enter Try.func3, Try.ntmps3
  go_wp2_with (first
    | (go_at_call 9; refine (HR.out _).mono ?_; rintro e wz ⟨rfl, hwz⟩; subst wz)
    | (go_at_call 10; refine (HP.out _).mono ?_; rintro e wz ⟨rfl, hwz⟩; subst wz)
    | (go_at_call 11; refine (HK.out _).mono ?_; rintro e w5 ⟨rfl, hb5⟩))
  go_ret
  exact ⟨rfl, hb5⟩
end Go.Proofs.Ytoephmcmmbhnaaa
