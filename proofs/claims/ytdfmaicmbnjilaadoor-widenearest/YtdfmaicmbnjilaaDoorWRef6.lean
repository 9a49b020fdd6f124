/-
  The document's numbers: Plus.
-/
import Derived.Test.YtdfmaicmbnjilaaDoorWRef5
import Derived.Test.YtdfmaicmbnjilaaDoorWRef3
import Derived.Deep.RegionHeld3
namespace Go.Proofs.YtdfmaicmbnjilaaDoor
open Go.RowKit Wd

set_option maxRecDepth 8000 in
set_option maxHeartbeats 4000000 in
theorem rPlus (ga gb : Nat) (x y : Int) (w : World) (hA : NmB w ga x) (hB : NmB w gb y) (hs : x.natAbs + y.natAbs < top24) : Calls Tryd.prog 32 #[.agg #[.slice (some ⟨ga, 0, none⟩) 24 24, .bool (decide (x < 0))], .agg #[.slice (some ⟨gb, 0, none⟩) 24 24, .bool (decide (y < 0))]] w fun e w' => ∃ g, e = .returned (.agg #[.slice (some ⟨g, 0, none⟩) 24 24, .bool (decide (x + y < 0))]) ∧ w.heap.size ≤ g ∧ NmB w' g (x + y) ∧ Below w.heap.size w w' := by
  obtain ⟨A, a1, a2, a3⟩ := hA
  obtain ⟨B, b1, b2, b3⟩ := hB
  obtain ⟨w1, hw1⟩ : ∃ w1, w.alloc (.cells #[.slice (some ⟨ga, 0, none⟩) 24 24, .bool (decide (x < 0))] 38) = w1 := ⟨_, rfl⟩
  obtain ⟨w2, hw2⟩ : ∃ w2, w1.alloc (.cells #[.slice (some ⟨gb, 0, none⟩) 24 24, .bool (decide (y < 0))] 38) = w2 := ⟨_, rfl⟩
  obtain ⟨w3, hw3⟩ : ∃ w3, w2.alloc (.cells #[.slice none 0 0, .bool false] 38) = w3 := ⟨_, rfl⟩
  have q1 : Below w.heap.size w w1 := by rw [← hw1]; exact below_new _ _
  have q2 : Below w1.heap.size w1 w2 := by rw [← hw2]; exact below_new _ _
  have q3 : Below w2.heap.size w2 w3 := by rw [← hw3]; exact below_new _ _
  have q := below_up q1 (below_up q2 q3)
  have s1 : w1.heap.size = w.heap.size + 1 := by rw [← hw1]; simp
  have s2 : w2.heap.size = w1.heap.size + 1 := by rw [← hw2]; simp
  have X : Bn w3 w.heap.size (.slice (some ⟨ga, 0, none⟩) 24 24) (decide (x < 0)) := Bn.later (Bn.later (by rw [← hw1]; exact Bn.new _ _ _) q2) q3
  have Y : Bn w3 w1.heap.size (.slice (some ⟨gb, 0, none⟩) 24 24) (decide (y < 0)) := Bn.later (by rw [← hw2]; exact Bn.new _ _ _) q3
  have Z : Bn w3 w2.heap.size (.slice none 0 0) false := by rw [← hw3]; exact Bn.new _ _ _
  have c0 := X.dig
  have c1 := X.sgn
  have d0 := Y.dig
  have d1 := Y.sgn
  have XA := hid (a1.later q a1.lt)
  have XB := hid (b1.later q b1.lt)
  have HX := hid X
  have HY := hid Y
  have HZ := hid Z
  have HQ := hid q
  have S1 := hid s1
  have S2 := hid s2
  have HD := hid (And.intro a2 b2)
  have HV := hid (And.intro a3 b3)
  have HS := hid hs
  have hsz : w.heap.size < w3.heap.size ∧ w2.heap.size < w3.heap.size := ⟨by have := X.lt; omega, Z.lt⟩
  clear q1 q2 q3 q s1 s2 X Y Z a1 a2 a3 b1 b2 b3 hs
  by_cases cx : x < 0 <;> by_cases cy : y < 0
  · rw [decide_eq_true (show x + y < 0 by omega)]
    rw [decide_eq_true cx] at *
    rw [decide_eq_true cy] at *
    go_enter Tryd.func32, Tryd.ntmps32
    go_wp2_with fail
    go_region_with (go_at_call 38; refine (rAdd ga gb A B w3.drew (XA.out.same rfl) (XB.out.same rfl) HD.out.1 HD.out.2 (by rw [HV.out.1, HV.out.2]; exact HS.out)).mono ?_; rintro e wa ⟨C, rfl, YC, dC, vC, ba⟩; have SA := Bn.later (w := w3.drew) HX.out ba; have ZA := Bn.later (w := w3.drew) HZ.out ba; have k0 := SA.sgn; have z0 := ZA.dig; have z1 := ZA.sgn; have f0 := ZA.frz 0; have f1 := ZA.frz 1; have P := hid (ZA.put (.slice (some ⟨w3.heap.size, 0, none⟩) 24 24) true); have BP := hid (below_put (below_up (b := w3.drew) HQ.out.drew ba) (show w.heap.size ≤ w2.heap.size by have := S1.out; have := S2.out; omega) (.slice (some ⟨w3.heap.size, 0, none⟩) 24 24) (.bool true)); have NP := hid ((NmB.far (g := w3.heap.size) (x := x + y) ⟨C, YC, dC, by rw [vC, HV.out.1, HV.out.2]; omega⟩ (p := ⟨w2.heap.size, 0, none⟩) (show w3.heap.size ≠ w2.heap.size by omega) (.slice (some ⟨w3.heap.size, 0, none⟩) 24 24)).far (p := ⟨w2.heap.size, 1, none⟩) (show w3.heap.size ≠ w2.heap.size by omega) (.bool true)); clear SA ZA YC vC ba)
    all_goals
      generalize World.setCell _ _ _ = w9 at *
      go_wp2_with fail
      have e0 := P.out.dig
      have e1 := P.out.sgn
      simp [bodyPost, results, Tryd.results32, go_sem, e0, e1]
      exact ⟨by omega, NP.out, BP.out⟩
  · rw [decide_eq_true cx] at *
    rw [decide_eq_false cy] at *
    have CB := hid (rBelow ga gb A B w3 XA.out XB.out HD.out.1 HD.out.2)
    rw [HV.out.1, HV.out.2] at CB
    by_cases cc : x.natAbs < y.natAbs
    · rw [decide_eq_true cc] at CB
      rw [show decide (x + y < 0) = false from decide_eq_false (by omega)]
      go_enter Tryd.func32, Tryd.ntmps32
      go_wp2_with fail
      refine (CB.out).mono ?_
      rintro e w4 ⟨rfl, b4⟩
      have X4 := hid (HX.out.later b4)
      have Y4 := hid (HY.out.later b4)
      have Z4 := hid (HZ.out.later b4)
      have A4 := hid (XA.out.later b4 XA.out.lt)
      have B4 := hid (XB.out.later b4 XB.out.lt)
      have Q4 := hid (below_up HQ.out b4)
      have hsz4 : w2.heap.size < w4.heap.size := Z4.out.lt
      have k0 := X4.out.dig
      have k1 := X4.out.sgn
      have k2 := Y4.out.dig
      have k3 := Y4.out.sgn
      clear b4
      go_wp2_with fail
      go_region_with (go_at_call 39; refine (rTake gb ga B A w4.drew (B4.out.same rfl) (A4.out.same rfl) HD.out.2 HD.out.1 (by rw [HV.out.1, HV.out.2]; omega)).mono ?_; rintro e wa ⟨C, rfl, YC, dC, vC, ba⟩; have SA := Bn.later (w := w4.drew) Y4.out ba; have ZA := Bn.later (w := w4.drew) Z4.out ba; have m0 := SA.sgn; have z0 := ZA.dig; have z1 := ZA.sgn; have f0 := ZA.frz 0; have f1 := ZA.frz 1; have P := hid (ZA.put (.slice (some ⟨w4.heap.size, 0, none⟩) 24 24) false); have BP := hid (below_put (below_up (b := w4.drew) Q4.out.drew ba) (show w.heap.size ≤ w2.heap.size by have := S1.out; have := S2.out; omega) (.slice (some ⟨w4.heap.size, 0, none⟩) 24 24) (.bool false)); have NP := hid ((NmB.far (g := w4.heap.size) (x := x + y) ⟨C, YC, dC, by rw [vC, HV.out.1, HV.out.2]; omega⟩ (p := ⟨w2.heap.size, 0, none⟩) (show w4.heap.size ≠ w2.heap.size by omega) (.slice (some ⟨w4.heap.size, 0, none⟩) 24 24)).far (p := ⟨w2.heap.size, 1, none⟩) (show w4.heap.size ≠ w2.heap.size by omega) (.bool false)); clear SA ZA YC vC ba)
      all_goals
        generalize World.setCell _ _ _ = w9 at *
        go_wp2_with fail
        have e0 := P.out.dig
        have e1 := P.out.sgn
        simp [bodyPost, results, Tryd.results32, go_sem, e0, e1]
        exact ⟨by have := S1.out; have := S2.out; omega, NP.out, BP.out⟩
    · rw [decide_eq_false cc] at CB
      obtain ⟨sg, hsg⟩ : ∃ sg, decide (x + y < 0) = sg := ⟨_, rfl⟩
      rw [hsg]
      have HSG := hid hsg
      clear hsg
      go_enter Tryd.func32, Tryd.ntmps32
      go_wp2_with fail
      refine (CB.out).mono ?_
      rintro e w4 ⟨rfl, b4⟩
      have X4 := hid (HX.out.later b4)
      have Z4 := hid (HZ.out.later b4)
      have Y4 := hid (HY.out.later b4)
      have A4 := hid (XA.out.later b4 XA.out.lt)
      have B4 := hid (XB.out.later b4 XB.out.lt)
      have Q4 := hid (below_up HQ.out b4)
      have k0 := X4.out.dig
      have k1 := X4.out.sgn
      have k2 := Y4.out.dig
      clear b4
      go_wp2_with fail
      refine (rTake ga gb A B w4 A4.out B4.out HD.out.1 HD.out.2 (by rw [HV.out.1, HV.out.2]; omega)).mono ?_
      rintro e w5 ⟨C, rfl, YC, dC, vC, b5⟩
      have hv : dv C 24 = (x + y).natAbs := by rw [vC, HV.out.1, HV.out.2]; omega
      have hsz5 : w2.heap.size < w4.heap.size := Z4.out.lt
      have X5 := X4.out.later b5
      have Z5 := Z4.out.later b5
      have m1 := X5.sgn
      have z0 := Z5.dig
      have z1 := Z5.sgn
      have f0 := Z5.frz 0
      have f1 := Z5.frz 1
      have P := hid (Z5.put (.slice (some ⟨w4.heap.size, 0, none⟩) 24 24) sg)
      have BP := hid (below_put (below_up Q4.out b5) (show w.heap.size ≤ w2.heap.size by have := S1.out; have := S2.out; omega) (.slice (some ⟨w4.heap.size, 0, none⟩) 24 24) (.bool sg))
      have NP := hid ((NmB.far (g := w4.heap.size) (x := x + y) ⟨C, YC, dC, hv⟩ (p := ⟨w2.heap.size, 0, none⟩) (show w4.heap.size ≠ w2.heap.size by omega) (.slice (some ⟨w4.heap.size, 0, none⟩) 24 24)).far (p := ⟨w2.heap.size, 1, none⟩) (show w4.heap.size ≠ w2.heap.size by omega) (.bool sg))
      have CZ := hid (rIsZero w4.heap.size C w5 YC)
      rw [hv] at CZ
      rw [show decide ((x + y).natAbs = 0) = !sg from by rw [← HSG.out, Bool.eq_iff_iff]; simp; omega] at CZ
      clear X5 Z5 b5 vC hv YC
      go_wp2_with fail
      refine (CZ.out).mono ?_
      rintro e w6 ⟨rfl, hw6⟩
      subst w6
      go_wp2_with fail
      generalize World.setCell _ _ _ = w9 at *
      have e0 := P.out.dig
      have e1 := P.out.sgn
      simp [bodyPost, results, Tryd.results32, go_sem, e0, e1]
      exact ⟨by have := S1.out; have := S2.out; omega, NP.out, BP.out⟩
  · rw [decide_eq_false cx] at *
    rw [decide_eq_true cy] at *
    have CB := hid (rBelow ga gb A B w3 XA.out XB.out HD.out.1 HD.out.2)
    rw [HV.out.1, HV.out.2] at CB
    by_cases cc : x.natAbs < y.natAbs
    · rw [decide_eq_true cc] at CB
      rw [show decide (x + y < 0) = true from decide_eq_true (by omega)]
      go_enter Tryd.func32, Tryd.ntmps32
      go_wp2_with fail
      refine (CB.out).mono ?_
      rintro e w4 ⟨rfl, b4⟩
      have X4 := hid (HX.out.later b4)
      have Y4 := hid (HY.out.later b4)
      have Z4 := hid (HZ.out.later b4)
      have A4 := hid (XA.out.later b4 XA.out.lt)
      have B4 := hid (XB.out.later b4 XB.out.lt)
      have Q4 := hid (below_up HQ.out b4)
      have hsz4 : w2.heap.size < w4.heap.size := Z4.out.lt
      have k0 := X4.out.dig
      have k1 := X4.out.sgn
      have k2 := Y4.out.dig
      have k3 := Y4.out.sgn
      clear b4
      go_wp2_with fail
      go_region_with (go_at_call 39; refine (rTake gb ga B A w4.drew (B4.out.same rfl) (A4.out.same rfl) HD.out.2 HD.out.1 (by rw [HV.out.1, HV.out.2]; omega)).mono ?_; rintro e wa ⟨C, rfl, YC, dC, vC, ba⟩; have SA := Bn.later (w := w4.drew) Y4.out ba; have ZA := Bn.later (w := w4.drew) Z4.out ba; have m0 := SA.sgn; have z0 := ZA.dig; have z1 := ZA.sgn; have f0 := ZA.frz 0; have f1 := ZA.frz 1; have P := hid (ZA.put (.slice (some ⟨w4.heap.size, 0, none⟩) 24 24) true); have BP := hid (below_put (below_up (b := w4.drew) Q4.out.drew ba) (show w.heap.size ≤ w2.heap.size by have := S1.out; have := S2.out; omega) (.slice (some ⟨w4.heap.size, 0, none⟩) 24 24) (.bool true)); have NP := hid ((NmB.far (g := w4.heap.size) (x := x + y) ⟨C, YC, dC, by rw [vC, HV.out.1, HV.out.2]; omega⟩ (p := ⟨w2.heap.size, 0, none⟩) (show w4.heap.size ≠ w2.heap.size by omega) (.slice (some ⟨w4.heap.size, 0, none⟩) 24 24)).far (p := ⟨w2.heap.size, 1, none⟩) (show w4.heap.size ≠ w2.heap.size by omega) (.bool true)); clear SA ZA YC vC ba)
      all_goals
        generalize World.setCell _ _ _ = w9 at *
        go_wp2_with fail
        have e0 := P.out.dig
        have e1 := P.out.sgn
        simp [bodyPost, results, Tryd.results32, go_sem, e0, e1]
        exact ⟨by have := S1.out; have := S2.out; omega, NP.out, BP.out⟩
    · rw [decide_eq_false cc] at CB
      rw [show decide (x + y < 0) = false from decide_eq_false (by omega)]
      go_enter Tryd.func32, Tryd.ntmps32
      go_wp2_with fail
      refine (CB.out).mono ?_
      rintro e w4 ⟨rfl, b4⟩
      have X4 := hid (HX.out.later b4)
      have Z4 := hid (HZ.out.later b4)
      have Y4 := hid (HY.out.later b4)
      have A4 := hid (XA.out.later b4 XA.out.lt)
      have B4 := hid (XB.out.later b4 XB.out.lt)
      have Q4 := hid (below_up HQ.out b4)
      have k0 := X4.out.dig
      have k1 := X4.out.sgn
      have k2 := Y4.out.dig
      clear b4
      go_wp2_with fail
      refine (rTake ga gb A B w4 A4.out B4.out HD.out.1 HD.out.2 (by rw [HV.out.1, HV.out.2]; omega)).mono ?_
      rintro e w5 ⟨C, rfl, YC, dC, vC, b5⟩
      have hv : dv C 24 = (x + y).natAbs := by rw [vC, HV.out.1, HV.out.2]; omega
      have hsz5 : w2.heap.size < w4.heap.size := Z4.out.lt
      have X5 := X4.out.later b5
      have Z5 := Z4.out.later b5
      have m1 := X5.sgn
      have z0 := Z5.dig
      have z1 := Z5.sgn
      have f0 := Z5.frz 0
      have f1 := Z5.frz 1
      have P := hid (Z5.put (.slice (some ⟨w4.heap.size, 0, none⟩) 24 24) false)
      have BP := hid (below_put (below_up Q4.out b5) (show w.heap.size ≤ w2.heap.size by have := S1.out; have := S2.out; omega) (.slice (some ⟨w4.heap.size, 0, none⟩) 24 24) (.bool false))
      have NP := hid ((NmB.far (g := w4.heap.size) (x := x + y) ⟨C, YC, dC, hv⟩ (p := ⟨w2.heap.size, 0, none⟩) (show w4.heap.size ≠ w2.heap.size by omega) (.slice (some ⟨w4.heap.size, 0, none⟩) 24 24)).far (p := ⟨w2.heap.size, 1, none⟩) (show w4.heap.size ≠ w2.heap.size by omega) (.bool false))
      have CZ := hid (rIsZero w4.heap.size C w5 YC)
      rw [hv] at CZ
      clear X5 Z5 b5 vC hv YC CZ
      go_wp2_with fail
      generalize World.setCell _ _ _ = w9 at *
      have e0 := P.out.dig
      have e1 := P.out.sgn
      simp [bodyPost, results, Tryd.results32, go_sem, e0, e1]
      exact ⟨by have := S1.out; have := S2.out; omega, NP.out, BP.out⟩
  · rw [decide_eq_false (show ¬ x + y < 0 by omega)]
    rw [decide_eq_false cx] at *
    rw [decide_eq_false cy] at *
    go_enter Tryd.func32, Tryd.ntmps32
    go_wp2_with fail
    go_region_with (go_at_call 38; refine (rAdd ga gb A B w3.drew (XA.out.same rfl) (XB.out.same rfl) HD.out.1 HD.out.2 (by rw [HV.out.1, HV.out.2]; exact HS.out)).mono ?_; rintro e wa ⟨C, rfl, YC, dC, vC, ba⟩; have SA := Bn.later (w := w3.drew) HX.out ba; have ZA := Bn.later (w := w3.drew) HZ.out ba; have k0 := SA.sgn; have z0 := ZA.dig; have z1 := ZA.sgn; have f0 := ZA.frz 0; have f1 := ZA.frz 1; have P := hid (ZA.put (.slice (some ⟨w3.heap.size, 0, none⟩) 24 24) false); have BP := hid (below_put (below_up (b := w3.drew) HQ.out.drew ba) (show w.heap.size ≤ w2.heap.size by have := S1.out; have := S2.out; omega) (.slice (some ⟨w3.heap.size, 0, none⟩) 24 24) (.bool false)); have NP := hid ((NmB.far (g := w3.heap.size) (x := x + y) ⟨C, YC, dC, by rw [vC, HV.out.1, HV.out.2]; omega⟩ (p := ⟨w2.heap.size, 0, none⟩) (show w3.heap.size ≠ w2.heap.size by omega) (.slice (some ⟨w3.heap.size, 0, none⟩) 24 24)).far (p := ⟨w2.heap.size, 1, none⟩) (show w3.heap.size ≠ w2.heap.size by omega) (.bool false)); clear SA ZA YC vC ba)
    all_goals
      generalize World.setCell _ _ _ = w9 at *
      go_wp2_with fail
      have e0 := P.out.dig
      have e1 := P.out.sgn
      simp [bodyPost, results, Tryd.results32, go_sem, e0, e1]
      exact ⟨by omega, NP.out, BP.out⟩
end Go.Proofs.YtdfmaicmbnjilaaDoor
