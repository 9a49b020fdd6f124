/-
  Package wide: tenfold, guess, Read.
-/
import Derived.Test.YtdfmaicmbnjilaaDoorWText
import Derived.Deep.RegionHeld3
import Derived.Shelf.Small.Wraps
namespace Go.Proofs.YtdfmaicmbnjilaaDoor
open Go.RowKit Wd

set_option maxRecDepth 8000 in
set_option maxHeartbeats 1600000 in
theorem tenfold_any (a : Int) (w : World) : Calls Tryd.prog 55 #[.agg #[.int .i64 (hi (a)), .int .u64 (lo (a))]] w fun e w' => e = .returned (.agg #[.int .i64 (hi (a * 10)), .int .u64 (lo (a * 10))]) ∧ Below w.heap.size w w' := by
  have C1 := hid (plus_any a a)
  have C2 := hid (plus_any (a + a) (a + a))
  have C3 := hid (plus_any (a + a + (a + a)) (a + a + (a + a)))
  have C4 := hid (plus_any (a + a + (a + a) + (a + a + (a + a))) (a + a))
  rw [show a + a + (a + a) + (a + a + (a + a)) + (a + a) = a * 10 by omega] at C4
  generalize hi (a * 10) = hx at *
  generalize lo (a * 10) = lx at *
  generalize a + a + (a + a) + (a + a + (a + a)) = a8 at *
  generalize a + a + (a + a) = a4 at *
  generalize a + a = a2 at *
  generalize hi a = h1 at *
  generalize lo a = l1 at *
  generalize hi a2 = h2 at *
  generalize lo a2 = l2 at *
  generalize hi a4 = h4 at *
  generalize lo a4 = l4 at *
  generalize hi a8 = h8 at *
  generalize lo a8 = l8 at *
  obtain ⟨w1, hw1⟩ : ∃ w1, w.alloc (.cells #[.int .i64 h1, .int .u64 l1] 24) = w1 := ⟨_, rfl⟩
  obtain ⟨w2, hw2⟩ : ∃ w2, w1.alloc (.cells #[.int .i64 0, .int .u64 0] 24) = w2 := ⟨_, rfl⟩
  have b1 : Below w.heap.size w w1 := by rw [← hw1]; exact below_new _ _
  have b2 : Below w1.heap.size w1 w2 := by rw [← hw2]; exact below_new _ _
  have s1 : w1.heap.size = w.heap.size + 1 := by rw [← hw1]; simp
  have X1 : Bw w2 w.heap.size h1 l1 := Bw.later (by rw [← hw1]; exact Bw.new _ _ _) b2
  have Y2 : Bw w2 w1.heap.size 0 0 := by rw [← hw2]; exact Bw.new _ _ _
  have B2 := hid (below_up b1 b2)
  have c0 := X1.hi
  have c1 := X1.lo
  have YY := hid Y2
  have S1 := hid s1
  clear b1 b2 X1 Y2 s1
  go_enter Tryd.func55, Tryd.ntmps55
  go_wp2_with fail
  refine (C1.out _).mono ?_
  rintro e w3 ⟨rfl, b3⟩
  obtain ⟨w4, hw4⟩ : ∃ w4, w3.alloc (.cells #[.int .i64 h2, .int .u64 l2] 24) = w4 := ⟨_, rfl⟩
  have b4 : Below w3.heap.size w3 w4 := by rw [← hw4]; exact below_new _ _
  have X4 : Bw w4 w3.heap.size h2 l2 := by rw [← hw4]; exact Bw.new _ _ _
  have Y4 := hid (YY.out.later (below_up b3 b4))
  have B4 := hid (below_up B2.out (below_up b3 b4))
  have c2 := X4.hi
  have c3 := X4.lo
  have XX := hid X4
  clear b3 b4 X4 YY B2
  go_wp2_with fail
  refine (C2.out _).mono ?_
  rintro e w5 ⟨rfl, b5⟩
  obtain ⟨w6, hw6⟩ : ∃ w6, w5.alloc (.cells #[.int .i64 h4, .int .u64 l4] 24) = w6 := ⟨_, rfl⟩
  have b6 : Below w5.heap.size w5 w6 := by rw [← hw6]; exact below_new _ _
  have X6 : Hid (Bw w6 w5.heap.size h4 l4) := by rw [← hw6]; exact Bw.new _ _ _
  have V6 := hid (XX.out.later (below_up b5 b6))
  have Y6 := hid (Y4.out.later (below_up b5 b6))
  have B6 := hid (below_up B4.out (below_up b5 b6))
  have c4 := X6.out.hi
  have c5 := X6.out.lo
  have c6 := V6.out.hi
  have c7 := V6.out.lo
  clear b5 b6 XX Y4 B4
  go_wp2_with fail
  go_region_with (first
    | (go_at_call_of 21 (Value.agg #[.int .i64 h4, .int .u64 l4]); refine (C3.out _).mono ?_; rintro e wa ⟨rfl, ba⟩; have VA := hid (Bw.later (w := w6.drew) V6.out ba); have YA := hid (Bw.later (w := w6.drew) Y6.out ba); have BA : Hid (Below w.heap.size w wa) := below_up (b := w6.drew) B6.out.drew ba; have d0 := VA.out.hi; have d1 := VA.out.lo)
    | (go_at_call_of 21 (Value.agg #[.int .i64 h8, .int .u64 l8]); refine (C4.out _).mono ?_; rintro e wb ⟨rfl, bb⟩; have YB := hid (YA.out.later bb); have e0 := YB.out.hi; have e1 := YB.out.lo; have f0 := YB.out.frz 0; have f1 := YB.out.frz 1; have ZB := hid (YB.out.put hx lx); have BP := hid (below_put (below_up BA.out bb) (show w.heap.size ≤ w1.heap.size by have := S1.out; omega) (.int .i64 hx) (.int .u64 lx))))
  all_goals
    generalize World.setCell _ _ _ = w9 at *
    go_wp2_with fail
    have g0 := ZB.out.hi
    have g1 := ZB.out.lo
    simp [bodyPost, results, Tryd.results55, go_sem, g0, g1]
    exact BP.out
end Go.Proofs.YtdfmaicmbnjilaaDoor
