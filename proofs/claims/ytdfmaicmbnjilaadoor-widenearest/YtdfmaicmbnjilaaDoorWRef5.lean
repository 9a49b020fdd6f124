/-
  The document's numbers: Int, Below.
-/
import Derived.Test.YtdfmaicmbnjilaaDoorWRef4
import Derived.Test.YtdfmaicmbnjilaaDoorWRef2
namespace Go.Proofs.YtdfmaicmbnjilaaDoor
open Go.RowKit Wd

set_option maxRecDepth 8000 in
set_option maxHeartbeats 1600000 in
theorem rInt (i : Int) (hI : I64 i) (w : World) : Calls Tryd.prog 53 #[.int .i64 i] w fun e w' => ∃ g, e = .returned (.agg #[.slice (some ⟨g, 0, none⟩) 24 24, .bool (decide (i < 0))]) ∧ w.heap.size ≤ g ∧ NmB w' g i ∧ Below w.heap.size w w' := by
  unfold I64 at hI
  obtain ⟨w1, hw1⟩ : ∃ w1, w.alloc (.cells #[.slice none 0 0, .bool false] 38) = w1 := ⟨_, rfl⟩
  have B1 : Hid (Below w.heap.size w w1) := by rw [← hw1]; exact below_new _ _
  have S1 : Hid (w1.heap.size = w.heap.size + 1) := by show _ = _; rw [← hw1]; simp
  have X1 : Hid (Bn w1 w.heap.size (.slice none 0 0) false) := by rw [← hw1]; exact Bn.new _ _ _
  have CS := hid (rSmall i.natAbs (by omega))
  by_cases c : i < 0
  · have c' : ¬ (0 : Int) ≤ i := by omega
    rw [decide_eq_true c]
    obtain ⟨x, hx⟩ : ∃ x, i + 1 = x := ⟨_, rfl⟩
    obtain ⟨y, hy⟩ : ∃ y, -x = y := ⟨_, rfl⟩
    have hw1' : IntKind.i64.wrap x = x := by rw [wrap_sw]; unfold sw; omega
    have hw2' : IntKind.i64.wrap y = y := by rw [wrap_sw]; unfold sw; omega
    have hw3' : IntKind.u64.wrap y = y := by rw [wrap_uw]; unfold uw; omega
    have hy2 : y + 1 = (i.natAbs : Int) := by omega
    have hw4' : IntKind.u64.wrap (i.natAbs : Int) = (i.natAbs : Int) := by rw [wrap_uw]; unfold uw; omega
    have HN : Hid (∀ W g, NmB W g (i.natAbs : Int) → NmB W g i) := fun W g h => by
      obtain ⟨D, h1, h2, h3⟩ := h
      exact ⟨D, h1, h2, by rw [h3, Int.natAbs_natCast]⟩
    generalize (i.natAbs : Int) = z at *
    clear hI c
    go_enter Tryd.func53, Tryd.ntmps53
    go_wp2_with fail
    refine (CS.out _).mono ?_
    rintro e w2 ⟨g, rfl, hg, N2, b2⟩
    obtain ⟨w3, hw3⟩ : ∃ w3, w2.alloc (.cells #[.slice (some ⟨g, 0, none⟩) 24 24, .bool true] 38) = w3 := ⟨_, rfl⟩
    have b3 : Below w2.heap.size w2 w3 := by rw [← hw3]; exact below_new _ _
    have Y3 : Bn w3 w2.heap.size (.slice (some ⟨g, 0, none⟩) 24 24) true := by rw [← hw3]; exact Bn.new _ _ _
    have X3 := (X1.out.later b2).later b3
    have N3 := hid (HN.out _ _ (N2.later b3))
    have B3 := hid (below_up B1.out (below_up b2 b3))
    have c0 := Y3.dig
    have c1 := Y3.sgn
    have d0 := X3.dig
    have d1 := X3.sgn
    have f0 := X3.frz 0
    have f1 := X3.frz 1
    have P := hid (X3.put (.slice (some ⟨g, 0, none⟩) 24 24) true)
    have BP := hid (below_put B3.out (Nat.le_refl w.heap.size) (.slice (some ⟨g, 0, none⟩) 24 24) (.bool true))
    have hgw : w.heap.size < g := by have := S1.out; omega
    have NP := hid ((N3.out.far (p := ⟨w.heap.size, 0, none⟩) (show g ≠ w.heap.size by omega) (.slice (some ⟨g, 0, none⟩) 24 24)).far (p := ⟨w.heap.size, 1, none⟩) (show g ≠ w.heap.size by omega) (.bool true))
    clear b2 b3 Y3 X3 N2
    go_wp2_with fail
    generalize World.setCell _ _ _ = w9 at *
    have e0 := P.out.dig
    have e1 := P.out.sgn
    simp [bodyPost, results, Tryd.results53, go_sem, e0, e1]
    exact ⟨by omega, NP.out, BP.out⟩
  · have c' : (0 : Int) ≤ i := by omega
    rw [decide_eq_false c]
    have hw3' : IntKind.u64.wrap i = i := by rw [wrap_uw]; unfold uw; omega
    rw [show ((i.natAbs : Nat) : Int) = i by omega] at CS
    clear hI c
    go_enter Tryd.func53, Tryd.ntmps53
    go_wp2_with fail
    refine (CS.out _).mono ?_
    rintro e w2 ⟨g, rfl, hg, N2, b2⟩
    have X3 := X1.out.later b2
    have d0 := X3.dig
    have d1 := X3.sgn
    have f0 := X3.frz 0
    have f1 := X3.frz 1
    have P := hid (X3.put (.slice (some ⟨g, 0, none⟩) 24 24) false)
    have BP := hid (below_put (below_up B1.out b2) (Nat.le_refl w.heap.size) (.slice (some ⟨g, 0, none⟩) 24 24) (.bool false))
    have hgw : w.heap.size < g := by have := S1.out; omega
    have NP := hid ((N2.far (p := ⟨w.heap.size, 0, none⟩) (show g ≠ w.heap.size by omega) (.slice (some ⟨g, 0, none⟩) 24 24)).far (p := ⟨w.heap.size, 1, none⟩) (show g ≠ w.heap.size by omega) (.bool false))
    clear b2 X3 N2
    go_wp2_with fail
    generalize World.setCell _ _ _ = w9 at *
    have e0 := P.out.dig
    have e1 := P.out.sgn
    simp [bodyPost, results, Tryd.results53, go_sem, e0, e1]
    exact ⟨by omega, NP.out, BP.out⟩
set_option maxRecDepth 8000 in
set_option maxHeartbeats 1600000 in
theorem rBelowN (ga gb : Nat) (x y : Int) (w : World) (hA : NmB w ga x) (hB : NmB w gb y) : Calls Tryd.prog 15 #[.agg #[.slice (some ⟨ga, 0, none⟩) 24 24, .bool (decide (x < 0))], .agg #[.slice (some ⟨gb, 0, none⟩) 24 24, .bool (decide (y < 0))]] w fun e w' => e = .returned (.bool (decide (x < y))) ∧ Below w.heap.size w w' := by
  obtain ⟨A, a1, a2, a3⟩ := hA
  obtain ⟨B, b1, b2, b3⟩ := hB
  obtain ⟨w1, hw1⟩ : ∃ w1, w.alloc (.cells #[.slice (some ⟨ga, 0, none⟩) 24 24, .bool (decide (x < 0))] 38) = w1 := ⟨_, rfl⟩
  obtain ⟨w2, hw2⟩ : ∃ w2, w1.alloc (.cells #[.slice (some ⟨gb, 0, none⟩) 24 24, .bool (decide (y < 0))] 38) = w2 := ⟨_, rfl⟩
  have q1 : Below w.heap.size w w1 := by rw [← hw1]; exact below_new _ _
  have q2 : Below w1.heap.size w1 w2 := by rw [← hw2]; exact below_new _ _
  have q3 := below_up q1 q2
  have X : Bn w2 w.heap.size (.slice (some ⟨ga, 0, none⟩) 24 24) (decide (x < 0)) := Bn.later (by rw [← hw1]; exact Bn.new _ _ _) q2
  have Y : Bn w2 w1.heap.size (.slice (some ⟨gb, 0, none⟩) 24 24) (decide (y < 0)) := by rw [← hw2]; exact Bn.new _ _ _
  have c0 := X.dig
  have c1 := X.sgn
  have d0 := Y.dig
  have d1 := Y.sgn
  have C1 := hid (rBelow ga gb A B w2 (a1.later q3 a1.lt) (b1.later q3 b1.lt) a2 b2)
  have C2 := hid (rBelow gb ga B A w2 (b1.later q3 b1.lt) (a1.later q3 a1.lt) b2 a2)
  rw [a3, b3] at C1 C2
  have Q3 := hid q3
  clear q1 q2 q3 X Y a1 a2 a3 b1 b2 b3
  by_cases cx : x < 0 <;> by_cases cy : y < 0
  · have e : decide (x < y) = decide (y.natAbs < x.natAbs) := by rw [decide_eq_decide]; omega
    rw [e]
    rw [decide_eq_true cx] at *
    rw [decide_eq_true cy] at *
    clear cx cy e C1
    go_enter Tryd.func15, Tryd.ntmps15
    go_wp2_with fail
    refine (C2.out).mono ?_
    rintro e w3 ⟨rfl, b3⟩
    go_wp2_with fail
    go_ret
    exact ⟨rfl, below_up Q3.out b3⟩
  · rw [decide_eq_true (show x < y by omega)]
    rw [decide_eq_true cx] at *
    rw [decide_eq_false cy] at *
    clear cx cy C1 C2
    go_enter Tryd.func15, Tryd.ntmps15
    go_wp2_with fail
    go_ret
    exact ⟨rfl, Q3.out⟩
  · rw [decide_eq_false (show ¬ x < y by omega)]
    rw [decide_eq_false cx] at *
    rw [decide_eq_true cy] at *
    clear cx cy C1 C2
    go_enter Tryd.func15, Tryd.ntmps15
    go_wp2_with fail
    go_ret
    exact ⟨rfl, Q3.out⟩
  · have e : decide (x < y) = decide (x.natAbs < y.natAbs) := by rw [decide_eq_decide]; omega
    rw [e]
    rw [decide_eq_false cx] at *
    rw [decide_eq_false cy] at *
    clear cx cy e C2
    go_enter Tryd.func15, Tryd.ntmps15
    go_wp2_with fail
    refine (C1.out).mono ?_
    rintro e w3 ⟨rfl, b3⟩
    go_wp2_with fail
    go_ret
    exact ⟨rfl, below_up Q3.out b3⟩
end Go.Proofs.YtdfmaicmbnjilaaDoor
