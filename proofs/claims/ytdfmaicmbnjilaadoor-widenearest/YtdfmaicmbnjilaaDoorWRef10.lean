/-
  The document's numbers: the number of a wide.
-/
import Derived.Test.YtdfmaicmbnjilaaDoorWRef9
namespace Go.Proofs.YtdfmaicmbnjilaaDoor
open Go.RowKit Wd

set_option maxRecDepth 8000 in
set_option maxHeartbeats 800000 in
theorem lNum (a : Int) (ha : Is a) (w : World) : Calls Tryd.prog 34 #[.agg #[.int .i64 (hi (a)), .int .u64 (lo (a))]] w fun e w' => ∃ g, e = .returned (.agg #[.slice (some ⟨g, 0, none⟩) 24 24, .bool (decide (a < 0))]) ∧ w.heap.size ≤ g ∧ NmB w' g a ∧ Below w.heap.size w w' := by
  have hv : hi a * 18446744073709551616 + lo a = a := by unfold Is at ha; unfold hi lo; omega
  have h1 : I64 (hi a) := by unfold Is at ha; unfold I64 hi; omega
  obtain ⟨u, hu⟩ : ∃ u : Nat, (u : Int) = lo a := ⟨(lo a).toNat, by unfold lo; omega⟩
  have h2 : u < 18446744073709551616 := by have : lo a < 18446744073709551616 := by unfold lo; omega
                                           omega
  have CO := hid (rOf (hi a) u h1 h2)
  rw [hu, hv] at CO
  generalize hi a = x at *
  generalize lo a = y at *
  clear hv h1 h2 hu ha
  obtain ⟨z, hz⟩ : ∃ z, decide (a < 0) = z := ⟨_, rfl⟩
  rw [hz] at CO ⊢
  clear hz
  obtain ⟨w0, hw0⟩ : ∃ w0, w.alloc (.cells #[.int .i64 x, .int .u64 y] 24) = w0 := ⟨_, rfl⟩
  obtain ⟨w1, hw1⟩ : ∃ w1, w0.alloc (.cells #[.slice none 0 0, .bool false] 38) = w1 := ⟨_, rfl⟩
  have b0 : Below w.heap.size w w0 := by rw [← hw0]; exact below_new _ _
  have b1 : Below w0.heap.size w0 w1 := by rw [← hw1]; exact below_new _ _
  have S0 : Hid (w0.heap.size = w.heap.size + 1) := by show _ = _; rw [← hw0]; simp
  have S1 : Hid (w1.heap.size = w0.heap.size + 1) := by show _ = _; rw [← hw1]; simp
  have B1 := hid (below_up b0 b1)
  have K0 : Bw w1 w.heap.size x y := Bw.later (by rw [← hw0]; exact Bw.new _ _ _) b1
  have c0 := K0.hi
  have c1 := K0.lo
  clear K0
  have X1 : Hid (Bn w1 w0.heap.size (.slice none 0 0) false) := by rw [← hw1]; exact Bn.new _ _ _
  clear b0 b1
  go_enter Tryd.func34, Tryd.ntmps34
  go_wp2_with fail
  refine (CO.out _).mono ?_
  rintro e w2 ⟨g, rfl, hg, N2, b2⟩
  have X3 := X1.out.later b2
  have d0 := X3.dig
  have d1 := X3.sgn
  have f0 := X3.frz 0
  have f1 := X3.frz 1
  have P := hid (X3.put (.slice (some ⟨g, 0, none⟩) 24 24) z)
  have BP := hid (below_put (below_up B1.out b2) (show w.heap.size ≤ w0.heap.size by have := S0.out; omega) (.slice (some ⟨g, 0, none⟩) 24 24) (.bool z))
  have hgw : w0.heap.size < g := by have := S1.out; omega
  have hgs : w.heap.size ≤ g := by have := S0.out; omega
  have NP := hid ((N2.far (p := ⟨w0.heap.size, 0, none⟩) (show g ≠ w0.heap.size by omega) (.slice (some ⟨g, 0, none⟩) 24 24)).far (p := ⟨w0.heap.size, 1, none⟩) (show g ≠ w0.heap.size by omega) (.bool z))
  clear b2 X3 N2
  go_wp2_with fail
  generalize World.setCell _ _ _ = w9 at *
  have e0 := P.out.dig
  have e1 := P.out.sgn
  simp [bodyPost, results, Tryd.results34, go_sem, e0, e1]
  exact ⟨hgs, NP.out, BP.out⟩
end Go.Proofs.YtdfmaicmbnjilaaDoor
