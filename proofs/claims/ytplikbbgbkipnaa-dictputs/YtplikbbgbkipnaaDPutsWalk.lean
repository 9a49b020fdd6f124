/-
  The walk of DictPuts.
-/
import Derived.Test.YtplikbbgbkipnaaDKnown
import Derived.Test.YtplikbbgbkipnaaDRefPut
import Derived.Test.YtplikbbgbkipnaaDArgs
namespace Go.Proofs.Ytplikbbgbkipnaa
open Go.ChangeShapes Go.WideShapes Go.ChangeAt Go.RowKit Cu

set_option maxRecDepth 8000 in
set_option maxHeartbeats 4000000 in
theorem walk_dictPuts (W : World) (a0 : Option Addr) (n0 c0 : Nat) (l : List Int) (hL : IArgD W a0 n0 c0 l) :
    Calls Try.prog 4 #[.slice a0 n0 c0] W fun e W' => e = .returned (.bool true) ∧ Below W.heap.size W W' := by
  have e0 := hL.len
  subst e0
  have HA := hid hL.ints
  have HIN := hid hL.in64
  have HNIL := hid hL.nil
  have hn : l.length * 8 ≤ 140737488355328 := by have := hL.le; have := hL.small; omega
  have HR := hid (rPut9_any a0 l c0 W hL.ints)
  have HP := hid (fun a c w h => putInts_any a l c w h hL.in64)
  clear hL
  generalize putE l = E at *
  generalize putR l = Q at *
  go_enter Try.func4, Try.ntmps4
  go_wp2_with fail
  refine HR.out.mono ?_
  rintro e w1 ⟨v1, rfl, h1⟩
  obtain ⟨a1, c1, rfl, n1, s1⟩ := h1.form
  have S1 := hid s1
  have B1 := hid h1.2
  have HI := hid (ints_any a0 l c0 w1 (HA.out.later h1.2) HNIL.out hn)
  clear h1 s1 n1 HR HA
  go_wp2_with fail
  refine HI.out.mono ?_
  rintro e w2 ⟨v2, rfl, o2, b2⟩
  obtain ⟨a2, c2, rfl, _, _, _, i2⟩ := o2.form
  have S2 := hid (S1.out.later b2)
  have B2 := hid (below_up B1.out b2)
  have HQ := hid (HP.out a2 c2 w2 i2)
  clear o2 i2 b2 S1 B1 HI HP
  go_wp2_with fail
  refine HQ.out.mono ?_
  rintro e w3 ⟨v3, rfl, h3⟩
  obtain ⟨a3, c3, rfl, n3, s3⟩ := h3.form
  have B3 := hid (below_up B2.out h3.2)
  have hr1 := fun (wx : World) (hw : wx.heap = w3.heap) => run_strL (w := wx) c1 (show Bytes wx a1 Q from fun j hj => by
    obtain ⟨g, o, e, hg, hc⟩ := (S2.out.later h3.2) j hj
    exact ⟨g, o, e, by rw [hw]; exact hg, by rw [World.cell?_of_block (w := w3) (by rw [hw])]; exact hc⟩)
  have hr3 := fun (wx : World) (hw : wx.heap = w3.heap) => run_strL (w := wx) c3 (show Bytes wx a3 Q from fun j hj => by
    obtain ⟨g, o, e, hg, hc⟩ := s3 j hj
    exact ⟨g, o, e, by rw [hw]; exact hg, by rw [World.cell?_of_block (w := w3) (by rw [hw])]; exact hc⟩)
  have hr1w := hr1 w3 rfl
  have hr3w := hr3 w3 rfl
  clear hr1 hr3 h3 s3 n3 HQ S2 B2
  go_wp2_with fail
  refine (known_yes w3).mono ?_
  rintro e w4 ⟨rfl, b4⟩
  have HF := hid (below_up B3.out b4)
  clear b4 B3
  go_wp2_with fail
  go_ret
  exact ⟨ret_bool (by simp), HF.out⟩
end Go.Proofs.Ytplikbbgbkipnaa
