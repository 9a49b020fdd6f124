/-
  THE WALKS OF LanesHolds AND LanesMarks.
-/
import Derived.Test.YtoephmcmmbhnaaaLKnown
import Derived.Test.YtoephmcmmbhnaaaLRef3
namespace Go.Proofs.Ytoephmcmmbhnaaa
open Go.RowKit Ln

set_option maxHeartbeats 1000000 in
theorem walk_lanesHolds (w : World) (x0 x1 x2 : Int) (h0 : 0 ≤ x0 ∧ x0 < ((18446744073709551616 : Nat) : Int)) (h1 : 0 ≤ x1 ∧ x1 < ((18446744073709551616 : Nat) : Int)) (_h2 : -9223372036854775808 ≤ x2 ∧ x2 ≤ 9223372036854775807) :
    Calls Try.prog 4 #[.int .u64 x0, .int .u64 x1, .int .i64 x2] w fun e w' => e = .returned (.bool true) ∧ Below w.heap.size w w' := by
  obtain ⟨x, rfl⟩ : ∃ v : Nat, x0 = (v : Int) := ⟨x0.toNat, by omega⟩
  obtain ⟨y, rfl⟩ : ∃ v : Nat, x1 = (v : Int) := ⟨x1.toNat, by omega⟩
  have hx : x < 18446744073709551616 := by omega
  have hy : y < 18446744073709551616 := by omega
  have HR1 : Hid (∀ W, Calls Try.prog 12 #[.int .u64 (x : Int), .int .u64 (y : Int), .int .i64 x2, .int .i64 1] W fun e w' => e = .returned (.tuple #[.int .u64 (heldV x y x2 1 : Int), .int .i64 (lnE x2)]) ∧ Below W.heap.size W w') := fun W => refHeld_any x y x2 1 W hx hy
  have HR3 : Hid (∀ W, Calls Try.prog 12 #[.int .u64 (x : Int), .int .u64 (y : Int), .int .i64 x2, .int .i64 3] W fun e w' => e = .returned (.tuple #[.int .u64 (heldV x y x2 3 : Int), .int .i64 (lnE x2)]) ∧ Below W.heap.size W w') := fun W => refHeld_any x y x2 3 W hx hy
  have HP1 : Hid (∀ W, Calls Try.prog 13 #[.int .u64 (x : Int), .int .u64 (y : Int), .int .i64 x2] W fun e w' => e = .returned (.tuple #[.int .u64 (heldV x y x2 1 : Int), .int .i64 (lnE x2)]) ∧ Grew W w') := fun W => Equal_any x y x2 W hx hy
  have HP3 : Hid (∀ W, Calls Try.prog 14 #[.int .u64 (x : Int), .int .u64 (y : Int), .int .i64 x2] W fun e w' => e = .returned (.tuple #[.int .u64 (heldV x y x2 3 : Int), .int .i64 (lnE x2)]) ∧ Grew W w') := fun W => Below_any x y x2 W hx hy
  have HK : Hid (∀ W, Calls Try.prog 11 #[] W fun e w' => e = .returned (.bool true) ∧ Below W.heap.size W w') := fun W => known_yes W
  have hE : (lnE x2 == lnE x2) = true := by simp
  have hV1 : ((heldV x y x2 1 : Int) == (heldV x y x2 1 : Int)) = true := by simp
  have hV3 : ((heldV x y x2 3 : Int) == (heldV x y x2 3 : Int)) = true := by simp
  generalize heldV x y x2 1 = V1 at *
  generalize heldV x y x2 3 = V3 at *
  generalize lnE x2 = E at *
  go_enter Try.func4, Try.ntmps4
  go_wp2_with fail
  refine (HR1.out _).mono ?_
  rintro e w1 ⟨rfl, hb1⟩
  go_wp2_with fail
  refine (HR3.out _).mono ?_
  rintro e w2 ⟨rfl, hb2⟩
  go_wp2_with (first
    | (go_at_call 13; refine (HP1.out _).mono ?_; rintro e w3 ⟨rfl, hg3⟩)
    | (go_at_call 14; refine (HP3.out _).mono ?_; rintro e w4 ⟨rfl, hg4⟩)
    | (go_at_call 11; refine (HK.out _).mono ?_; rintro e w5 ⟨rfl, hb5⟩))
  go_ret
  exact ⟨rfl, below_on (below_on (below_on (below_on hb1 hb2) hg3.below) hg4.below) hb5⟩

set_option maxHeartbeats 1000000 in
theorem walk_lanesMarks (w : World) (x0 x1 : Int) (h0 : 0 ≤ x0 ∧ x0 < ((18446744073709551616 : Nat) : Int)) (_h1 : -9223372036854775808 ≤ x1 ∧ x1 ≤ 9223372036854775807) :
    Calls Try.prog 5 #[.int .u64 x0, .int .i64 x1] w fun e w' => e = .returned (.bool true) ∧ Below w.heap.size w w' := by
  obtain ⟨x, rfl⟩ : ∃ v : Nat, x0 = (v : Int) := ⟨x0.toNat, by omega⟩
  have hx : x < 18446744073709551616 := by omega
  have HR : Hid (∀ W, Calls Try.prog 15 #[.int .u64 (x : Int), .int .i64 x1] W fun e w' => e = .returned (.tuple #[.int .u64 (mkV x x1 : Int), .int .i64 (lnE x1)]) ∧ Below W.heap.size W w') := fun W => refMarks_any x x1 W hx
  have HP : Hid (∀ W, Calls Try.prog 16 #[.int .u64 (x : Int), .int .i64 x1] W fun e w' => e = .returned (.tuple #[.int .u64 (mkV x x1 : Int), .int .i64 (lnE x1)]) ∧ Grew W w') := fun W => Marks_any x x1 W hx
  have HK : Hid (∀ W, Calls Try.prog 11 #[] W fun e w' => e = .returned (.bool true) ∧ Below W.heap.size W w') := fun W => known_yes W
  have hE : (lnE x1 == lnE x1) = true := by simp
  have hV : ((mkV x x1 : Int) == (mkV x x1 : Int)) = true := by simp
  generalize mkV x x1 = V at *
  generalize lnE x1 = E at *
  go_enter Try.func5, Try.ntmps5
  go_wp2_with (first
    | (go_at_call 15; refine (HR.out _).mono ?_; rintro e w1 ⟨rfl, hb1⟩)
    | (go_at_call 16; refine (HP.out _).mono ?_; rintro e w3 ⟨rfl, hg3⟩)
    | (go_at_call 11; refine (HK.out _).mono ?_; rintro e w5 ⟨rfl, hb5⟩))
  go_ret
  exact ⟨rfl, below_on (below_on hb1 hg3.below) hb5⟩
end Go.Proofs.Ytoephmcmmbhnaaa
