import Derived.Test.YtlidolocibfbgaaGreatDoorCNul
import Derived.Test.YtlidolocibfbgaaGreatDoorRAll
/-
  readInts and readBody by Runs.
-/
namespace Go.Proofs.YtlidolocibfbgaaGreatDoor.Ck
open Go.ChangeShapes Go.WideShapes Go.ChangeAt Go.RowKit Rn Cu

set_option maxHeartbeats 1000000 in
theorem readInts_runs (a : Option Addr) (l : List Nat) (c : Nat) (n : Int) (w : World) (hA : Bytes w a l) (ha : a = none → l.length = 0 ∧ c = 0) (hl : ∀ x ∈ l, x < 256) (hn : l.length + 20 ≤ 140737488355328) (hn1 : -9223372036854775808 ≤ n) (hn2 : n ≤ 9223372036854775807) :
    Calls Tryz.prog 139 #[dv 3 0, .slice a l.length c, .int .i64 n] w fun e w' => ∃ v, e = .returned (.tuple #[.iface 106 (.agg #[v]), .int .i64 ((readT decI l n).1 : Int)]) ∧ OwnRInt w' w.heap.size v (readT decI l n).2 ∧ Below w.heap.size w w' := by
  unfold dv
  obtain ⟨w2, hw2⟩ : ∃ w2, w.alloc (.cells #[.int .i64 3, .int .i64 0] 25) = w2 := ⟨_, rfl⟩
  have b2 : Below w.heap.size w w2 := by rw [← hw2]; exact below_new _ _
  have hD : BxD w2 w.heap.size 3 0 := by rw [← hw2]; exact BxD.new _ _ _
  obtain ⟨d0, d1⟩ := hD.cells
  have HP := hid (readInts a l c n w2 (hA.later b2) ha hl hn hn1 hn2)
  have HB := hid b2
  generalize readT decI l n = R at *
  clear b2 hD hA
  go_enter Tryz.func139, Tryz.ntmps139
  go_wp2_with fail
  refine HP.out.mono ?_
  rintro e w3 ⟨v, rfl, hO, b3⟩
  have HO := hid (hO.low HB.out.size)
  have HB3 := hid (below_up HB.out b3)
  obtain ⟨av, cv', ev, -⟩ := hO.form (two_len _)
  subst ev
  clear hO b3 HP d0 d1
  go_wp2_with fail
  go_ret2
  exact ⟨_, rfl, HO.out, HB3.out⟩
set_option maxHeartbeats 1000000 in
theorem readBody_runs (nm : ByteArray) (nb : Bool) (a : Option Addr) (l : List Nat) (c : Nat) (n : Int) (w : World) (hA : Bytes w a l) (ha : a = none → l.length = 0 ∧ c = 0) (hl : ∀ x ∈ l, x < 256) (hn : l.length + 20 ≤ 140737488355328) (hn1 : -9223372036854775808 ≤ n) (hn2 : n ≤ 9223372036854775807) :
    Calls Tryz.prog 88 #[cv ⟨nm, 1, nb⟩, dv 3 0, .slice a l.length c, .int .i64 n] w fun e w' => ∃ v, e = .returned (.tuple #[.iface 106 (.agg #[v]), .int .i64 ((readT decI l n).1 : Int)]) ∧ OwnRInt w' w.heap.size v (readT decI l n).2 ∧ Below w.heap.size w w' := by
  unfold cv dv
  dsimp only
  obtain ⟨w1, hw1⟩ : ∃ w1, w.alloc (.cells #[.string nm, .int .i64 1, .bool nb] 23) = w1 := ⟨_, rfl⟩
  obtain ⟨w2, hw2⟩ : ∃ w2, w1.alloc (.cells #[.int .i64 3, .int .i64 0] 25) = w2 := ⟨_, rfl⟩
  have b1 : Below w.heap.size w w1 := by rw [← hw1]; exact below_new _ _
  have b2 : Below w1.heap.size w1 w2 := by rw [← hw2]; exact below_new _ _
  have hC : BxC w2 w.heap.size ⟨nm, 1, nb⟩ := by
    have h1 : BxC w1 w.heap.size ⟨nm, 1, nb⟩ := by rw [← hw1]; exact BxC.new w ⟨nm, 1, nb⟩
    exact h1.later b2
  have hD : BxD w2 w1.heap.size 3 0 := by rw [← hw2]; exact BxD.new _ _ _
  obtain ⟨d0, d1⟩ := hD.cells
  obtain ⟨k0, k1, k2⟩ := hC.cells
  have HP := hid (readInts_runs a l c n w2 (hA.later (below_up b1 b2)) ha hl hn hn1 hn2)
  have HB := hid (below_up b1 b2)
  unfold dv at HP
  generalize readT decI l n = R at *
  clear b1 b2 hD hC hA
  dsimp only at k0 k1 k2
  go_enter Tryz.func88, Tryz.ntmps88
  go_wp2_with fail
  refine HP.out.mono ?_
  rintro e w3 ⟨v, rfl, hO, b3⟩
  have HO := hid (hO.low HB.out.size)
  have HB3 := hid (below_up HB.out b3)
  clear hO b3 HP d0 d1 k0 k1 k2
  go_wp2_with fail
  go_ret2
  exact ⟨_, rfl, HO.out, HB3.out⟩
end Go.Proofs.YtlidolocibfbgaaGreatDoor.Ck
