/-
  The document's numbers: Power.
-/
import Derived.Test.YthaafegakjjenaaDoorWRef7
import Derived.Test.YthaafegakjjenaaDoorWRef5
namespace Go.Proofs.YthaafegakjjenaaDoor
open Go.RowKit Wd

theorem pow_top {b : Nat} (h : b ≤ 383) : 1 * 2 ^ b < top24 := by
  rw [Nat.one_mul]
  refine Nat.lt_of_lt_of_le (Nat.pow_lt_pow_right (by decide) (show b < 16 * 24 by omega)) ?_
  rw [pow16 24 _ rfl]
  exact Nat.le_refl _
theorem fld0 (g : Nat) (b : Bool) (w : World) : (Instr.field 40 (.agg #[.slice (some ⟨g, 0, none⟩) 24 24, .bool b]) 0).run Tryd.prog w = .ok (.slice (some ⟨g, 0, none⟩) 24 24) w := by kernel_rfl
set_option maxRecDepth 8000 in
set_option maxHeartbeats 1600000 in
theorem rPower (b : Nat) (hb : b ≤ 383) (w : World) : Calls Tryd.prog 49 #[.int .i64 (b : Int)] w fun e w' => ∃ g, e = .returned (.agg #[.slice (some ⟨g, 0, none⟩) 24 24, .bool false]) ∧ w.heap.size ≤ g ∧ NmB w' g ((2 ^ b : Nat) : Int) ∧ Below w.heap.size w w' := by
  obtain ⟨w1, hw1⟩ : ∃ w1, w.alloc (.cells #[.slice none 0 0, .bool false] 40) = w1 := ⟨_, rfl⟩
  have B1 : Hid (Below w.heap.size w w1) := by rw [← hw1]; exact below_new _ _
  have S1 : Hid (w1.heap.size = w.heap.size + 1) := by show _ = _; rw [← hw1]; simp
  have X1 : Hid (Bn w1 w.heap.size (.slice none 0 0) false) := by rw [← hw1]; exact Bn.new _ _ _
  have CS := hid (rSmall 1 (by decide))
  rw [show ((1 : Nat) : Int) = 1 from rfl] at CS
  have HP := hid (pow_top hb)
  obtain ⟨V, hV⟩ : ∃ V : Int, V = ((2 ^ b : Nat) : Int) := ⟨_, rfl⟩
  rw [← hV]
  have HV : Hid (V.natAbs = 1 * 2 ^ b) := by show _ = _; rw [hV, Int.natAbs_natCast, Nat.one_mul]
  clear hV
  go_enter Tryd.func49, Tryd.ntmps49
  go_wp2_with fail
  refine (CS.out _).mono ?_
  rintro e w2 ⟨g, rfl, hg, ⟨D, n1, n2, n3⟩, b2⟩
  have n3' : dv D 24 = 1 := n3
  have hfld := fld0 g false w2
  go_wp2_with fail
  refine (rShifted g D b w2 n1 n2 (by omega) (by rw [n3']; exact HP.out)).mono ?_
  rintro e w3 ⟨C, rfl, m1, m2, m3, b3⟩
  have X3 := X1.out.later (below_up b2 b3)
  have hsz : w.heap.size < w2.heap.size := Nat.lt_of_lt_of_le X1.out.lt b2.size
  have N3 : NmB w3 w2.heap.size V := ⟨C, m1, m2, by rw [m3, n3', HV.out]⟩
  have d0 := X3.dig
  have d1 := X3.sgn
  have f0 := X3.frz 0
  have f1 := X3.frz 1
  have P := hid (X3.put (.slice (some ⟨w2.heap.size, 0, none⟩) 24 24) false)
  have BP := hid (below_put (below_up B1.out (below_up b2 b3)) (Nat.le_refl w.heap.size) (.slice (some ⟨w2.heap.size, 0, none⟩) 24 24) (.bool false))
  have NP := hid ((N3.far (p := ⟨w.heap.size, 0, none⟩) (show w2.heap.size ≠ w.heap.size by omega) (.slice (some ⟨w2.heap.size, 0, none⟩) 24 24)).far (p := ⟨w.heap.size, 1, none⟩) (show w2.heap.size ≠ w.heap.size by omega) (.bool false))
  clear b2 b3 X3 N3 n1 n2 n3 n3' m1 m2 m3
  go_wp2_with fail
  generalize World.setCell _ _ _ = w9 at *
  have e0 := P.out.dig
  have e1 := P.out.sgn
  simp [bodyPost, results, Tryd.results49, go_sem, e0, e1]
  exact ⟨by omega, NP.out, BP.out⟩
end Go.Proofs.YthaafegakjjenaaDoor
