/-
  The walk of FrameLifts.
-/
import Derived.Test.YtlhaahpgkkfhhaaGLift
namespace Go.Proofs.Ytlhaahpgkkfhhaa
open Go.ChangeShapes Go.WideShapes Go.ChangeAt Go.RowKit Fr

set_option maxRecDepth 8000 in
set_option maxHeartbeats 2000000 in
theorem walk_frameLifts (W : World) (base u v : Int) (hb : -9223372036854775808 ≤ base ∧ base ≤ 9223372036854775807) (hu : 0 ≤ u ∧ u < ((18446744073709551616 : Nat) : Int)) (hv : -9223372036854775808 ≤ v ∧ v ≤ 9223372036854775807) :
    Calls Try.prog 3 #[.int .i64 base, .int .u64 u, .int .i64 v] W fun e W' => e = .returned (.bool true) ∧ Below W.heap.size W W' := by
  obtain ⟨c, rfl⟩ : ∃ c : Nat, u = (c : Int) := ⟨u.toNat, by omega⟩
  have hcl : c < 18446744073709551616 := by omega
  have HL := hid (fun wx => lift_any base c wx hb hcl)
  have HR := hid (fun wx => refLift_any base c wx hb hcl)
  have HD : Hid (∃ (d : Int) (f : Bool), (∀ wx, Calls Try.prog 4 #[.int .i64 base, .int .i64 v] wx fun e w' => e = .returned (.tuple #[.int .u64 d, .bool f]) ∧ Below wx.heap.size wx w') ∧ (∀ wx, Calls Try.prog 5 #[.int .i64 base, .int .i64 v] wx fun e w' => e = .returned (.tuple #[.int .u64 d, .bool f]) ∧ w' = wx)) := by
    by_cases h : base ≤ v
    · exact ⟨_, _, fun wx => refDrop_yes base v wx hb hv h, fun wx => drop_yes base v wx hb hv h⟩
    · exact ⟨0, false, fun wx => (refDrop_no base v wx (by omega)).mono fun _ _ h => ⟨h.1, by rw [h.2]; exact Below.refl _ _⟩, fun wx => drop_no base v wx (by omega)⟩
  obtain ⟨d, f, h1, h2⟩ := HD.out
  have H1 := hid h1
  have H2 := hid h2
  clear HD h1 h2 hb hu hv hcl
  generalize lift base c = z at HL HR
  go_enter Try.func3, Try.ntmps3
  go_wp2_with fail
  refine (H1.out _).mono ?_
  rintro e w1 ⟨rfl, hb1⟩
  have HB1 := hid hb1
  clear hb1 H1
  go_wp2_with fail
  refine (H2.out _).mono ?_
  rintro e w2 ⟨rfl, rfl⟩
  clear H2
  go_wp2_with fail
  refine (HL.out _).mono ?_
  rintro e w3 ⟨rfl, rfl⟩
  clear HL
  go_wp2_with fail
  refine (HR.out _).mono ?_
  rintro e w4 ⟨rfl, hb4⟩
  have HB4 : Hid (Below W.heap.size W w4) := HB1.out.trans (hb4.mono HB1.out.size)
  clear HR hb4 HB1
  go_wp2_with fail
  go_ret
  exact ⟨rfl, HB4.out⟩
end Go.Proofs.Ytlhaahpgkkfhhaa
