import Derived.Test.YtlidolocibfbgaaGreatDoorSAll
/-
  sel.Same of a selection and nil (out of wip/sel/SCmp).
-/
namespace Go.Proofs.YtlidolocibfbgaaGreatDoor.Sl
open Go.RowKit Go.Shelf Bt

set_option maxHeartbeats 1000000 in
set_option maxRecDepth 20000 in
theorem Same_nil2 {lo' hi' : Nat} {sp' : Bool} {T' : TypeId} {x' : Value} {m : Nat} {h : Nat → Bool} (w : World) (hb : SelB w lo' hi' sp' T' x' m h) :
    Calls Tryz.prog 21 #[.iface T' x', .nilIface] w fun e w' => e = .returned (.bool false) ∧ Below w.heap.size w w' := by
  have HB : Hid (SelB w lo' hi' sp' T' x' m h) := hb
  clear hb
  go_enter Tryz.func21, Tryz.ntmps21
  go_wp2_with fail
  refine (there_any HB.out).mono ?_
  rintro e w2 ⟨rfl, b2⟩
  go_wp2_with fail
  refine (there_nil _).mono ?_
  rintro e w1 ⟨rfl, rfl⟩
  go_wp2_with fail
  refine (there_any (HB.out.later b2)).mono ?_
  rintro e w3 ⟨rfl, b3⟩
  go_wp2_with fail
  go_ret
  exact ⟨rfl, b2.trans (b3.mono b2.size)⟩
end Go.Proofs.YtlidolocibfbgaaGreatDoor.Sl
