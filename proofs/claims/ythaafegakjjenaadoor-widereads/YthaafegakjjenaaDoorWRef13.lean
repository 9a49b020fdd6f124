/-
  The document's numbers: the law's of; Int with its sign.
-/
import Derived.Test.YthaafegakjjenaaDoorWRef12
namespace Go.Proofs.YthaafegakjjenaaDoor
open Go.RowKit Wd

theorem cInt (i : Int) (s : Bool) (hI : I64 i) (hs : decide (i < 0) = s) (w : World) : Calls Tryd.prog 59 #[.int .i64 i] w fun e w' => ∃ g, e = .returned (.agg #[.slice (some ⟨g, 0, none⟩) 24 24, .bool s]) ∧ w.heap.size ≤ g ∧ NmB w' g i ∧ Below w.heap.size w w' := by
  subst hs; exact rInt i hI w
set_option maxRecDepth 8000 in
set_option maxHeartbeats 1600000 in
theorem lOf (x : Int) (s : Bool) (hs : decide (x < 0) = s) (hx : x.natAbs ≤ 340282366920938463463374607431768211456) (g : Nat) (w : World) (hA : NmB w g x) : Calls Tryd.prog 24 #[.agg #[.slice (some ⟨g, 0, none⟩) 24 24, .bool s]] w fun e w' => e = .returned (.agg #[.int .i64 (hi (x)), .int .u64 (lo (x))]) ∧ Below w.heap.size w w' := by
  obtain ⟨w1, hw1⟩ : ∃ w1, w.alloc (.cells #[.slice (some ⟨g, 0, none⟩) 24 24, .bool s] 40) = w1 := ⟨_, rfl⟩
  obtain ⟨w2, hw2⟩ : ∃ w2, w1.alloc (.cells #[.int .i64 0, .int .u64 0] 24) = w2 := ⟨_, rfl⟩
  have b1 : Below w.heap.size w w1 := by rw [← hw1]; exact below_new _ _
  have b2 : Below w1.heap.size w1 w2 := by rw [← hw2]; exact below_new _ _
  have b := below_up b1 b2
  have S1 : Hid (w1.heap.size = w.heap.size + 1) := by show _ = _; rw [← hw1]; simp
  have X1 : Bn w2 w.heap.size (.slice (some ⟨g, 0, none⟩) 24 24) s := Bn.later (by rw [← hw1]; exact Bn.new _ _ _) b2
  have Y1 : Bw w2 w1.heap.size 0 0 := by rw [← hw2]; exact Bw.new _ _ _
  have CW := hid (rWide g x w2 (hA.later b) hx)
  rw [hs] at CW
  have c0 := X1.dig
  have c1 := X1.sgn
  have HY := hid Y1
  have HB := hid b
  clear hs hx hA b1 b2 b X1 Y1
  generalize hi x = H at *
  generalize lo x = L at *
  go_enter Tryd.func24, Tryd.ntmps24
  go_wp2_with fail
  refine CW.out.mono ?_
  rintro e w3 ⟨rfl, b3⟩
  have Y3 := HY.out.later b3
  have d0 := Y3.hi
  have d1 := Y3.lo
  have f0 := Y3.frz 0
  have f1 := Y3.frz 1
  have P := hid (Y3.put H L)
  have BP := hid (below_put (below_up HB.out b3) (show w.heap.size ≤ w1.heap.size by have := S1.out; omega) (.int .i64 H) (.int .u64 L))
  clear Y3 b3
  go_wp2_with fail
  generalize World.setCell _ _ _ = w9 at *
  have e0 := P.out.hi
  have e1 := P.out.lo
  simp [bodyPost, results, Tryd.results24, go_sem, e0, e1]
  exact BP.out
/-- A wide that was just read, by its number. -/
theorem cNum (a : Int) (s : Bool) (ha : Is a) (hs : decide (a < 0) = s) (w : World) : Calls Tryd.prog 20 #[.agg #[.int .i64 (hi (a)), .int .u64 (lo (a))]] w fun e w' => ∃ g, e = .returned (.agg #[.slice (some ⟨g, 0, none⟩) 24 24, .bool s]) ∧ w.heap.size ≤ g ∧ NmB w' g a ∧ Below w.heap.size w w' := by
  subst hs; exact lNum a ha w
theorem is_bound {a : Int} (h : Is a) : a.natAbs ≤ 340282366920938463463374607431768211456 := by unfold Is at h; omega
theorem i64_bound {a : Int} (h : I64 a) : a.natAbs ≤ 340282366920938463463374607431768211456 := by unfold I64 at h; omega
end Go.Proofs.YthaafegakjjenaaDoor
