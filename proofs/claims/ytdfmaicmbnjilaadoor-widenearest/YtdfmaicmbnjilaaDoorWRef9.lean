/-
  The document's numbers: Of.
-/
import Derived.Test.YtdfmaicmbnjilaaDoorWRef8
import Derived.Test.YtdfmaicmbnjilaaDoorWRef6
namespace Go.Proofs.YtdfmaicmbnjilaaDoor
open Go.RowKit Wd

theorem of_top {a u : Nat} (ha : a ≤ 9223372036854775808) (hu : u < 18446744073709551616) : a * 18446744073709551616 + u < top24 :=
  Nat.lt_of_lt_of_le (show a * 18446744073709551616 + u < 170141183460469231750134047789593657344 by omega) (show _ ≤ 65536 ^ 24 by decide +kernel)
theorem Bn.put0 {w : World} {g : Nat} {s : Value} {b : Bool} (k : Bn w g s b) (s2 : Value) : Bn (w.setCell ⟨g, 0, none⟩ s2) g s2 b := by
  have h' : w.heap[g]? = _ := k
  unfold Bn
  simp only [World.setCell, Array.getElem?_modify]
  simp [h']
set_option maxRecDepth 8000 in
set_option maxHeartbeats 1600000 in
theorem rOf (i : Int) (u : Nat) (hI : I64 i) (hu : u < 18446744073709551616) (w : World) : Calls Tryd.prog 36 #[.int .i64 i, .int .u64 (u : Int)] w fun e w' => ∃ g, e = .returned (.agg #[.slice (some ⟨g, 0, none⟩) 24 24, .bool (decide (i * 18446744073709551616 + (u : Int) < 0))]) ∧ w.heap.size ≤ g ∧ NmB w' g (i * 18446744073709551616 + (u : Int)) ∧ Below w.heap.size w w' := by
  have HT : Hid (i.natAbs * 18446744073709551616 + u < top24) := by unfold I64 at hI; exact of_top (by omega) hu
  have CI := hid (rInt i hI)
  have CU := hid (rSmall u hu)
  obtain ⟨w1, hw1⟩ : ∃ w1, w.alloc (.cells #[.slice none 0 0, .bool false] 38) = w1 := ⟨_, rfl⟩
  have B1 : Hid (Below w.heap.size w w1) := by rw [← hw1]; exact below_new _ _
  have S1 : Hid (w1.heap.size = w.heap.size + 1) := by show _ = _; rw [← hw1]; simp
  have X1 : Hid (Bn w1 w.heap.size (.slice none 0 0) false) := by rw [← hw1]; exact Bn.new _ _ _
  obtain ⟨V, hV⟩ : ∃ V : Int, V = i * 18446744073709551616 := ⟨_, rfl⟩
  rw [← hV]
  have HV : Hid (V.natAbs = i.natAbs * 18446744073709551616) := by show _ = _; omega
  have HG : Hid (decide (V < 0) = decide (i < 0)) := by show _ = _; exact decide_eq_decide.2 (by omega)
  obtain ⟨sg, hsg⟩ : ∃ sg, decide (i < 0) = sg := ⟨_, rfl⟩
  rw [hsg] at CI HG
  have HU : Hid (((u : Nat) : Int).natAbs = u ∧ decide ((u : Int) < 0) = false) := ⟨by omega, decide_eq_false (by omega)⟩
  obtain ⟨U, hU⟩ : ∃ U : Int, (u : Int) = U := ⟨_, rfl⟩
  rw [hU] at CU HU ⊢
  have CP : Hid (∀ (ga gb : Nat) (W : World), NmB W ga V → NmB W gb U → Calls Tryd.prog 32 #[.agg #[.slice (some ⟨ga, 0, none⟩) 24 24, .bool sg], .agg #[.slice (some ⟨gb, 0, none⟩) 24 24, .bool false]] W fun e w' => ∃ g, e = .returned (.agg #[.slice (some ⟨g, 0, none⟩) 24 24, .bool (decide (V + U < 0))]) ∧ W.heap.size ≤ g ∧ NmB w' g (V + U) ∧ Below W.heap.size W w') := fun ga gb W ha hb => by
    have := rPlus ga gb V U W ha hb (by rw [HV.out, HU.out.1]; exact HT.out)
    rw [HG.out, HU.out.2] at this
    exact this
  obtain ⟨z, hz⟩ : ∃ z, decide (V + U < 0) = z := ⟨_, rfl⟩
  rw [hz] at CP ⊢
  clear hI hu hV hsg hz hU
  go_enter Tryd.func36, Tryd.ntmps36
  go_wp2_with fail
  refine (CI.out _).mono ?_
  rintro e w2 ⟨g, rfl, hg, ⟨D, n1, n2, n3⟩, b2⟩
  obtain ⟨w3, hw3⟩ : ∃ w3, w2.alloc (.cells #[.slice (some ⟨g, 0, none⟩) 24 24, .bool sg] 38) = w3 := ⟨_, rfl⟩
  have b3 : Below w2.heap.size w2 w3 := by rw [← hw3]; exact below_new _ _
  have S3 : Hid (w3.heap.size = w2.heap.size + 1) := by show _ = _; rw [← hw3]; simp
  have Y3 : Bn w3 w2.heap.size (.slice (some ⟨g, 0, none⟩) 24 24) sg := by rw [← hw3]; exact Bn.new _ _ _
  have X3 := hid ((X1.out.later b2).later b3)
  have hsz : w.heap.size < w2.heap.size := Nat.lt_of_lt_of_le X1.out.lt b2.size
  have Q3 := hid (below_up B1.out (below_up b2 b3))
  have D3 := hid (n1.later b3 n1.lt)
  have c0 := Y3.dig
  have c1 := Y3.sgn
  have HY3 := hid Y3
  have N2 := hid n2
  have N3 := hid n3
  clear b2 b3 Y3 n1 n2 n3
  go_wp2_with fail
  refine (rShifted g D 64 w3 D3.out N2.out (by decide) (by rw [N3.out]; exact Nat.lt_of_le_of_lt (Nat.le_add_right _ u) HT.out)).mono ?_
  rintro e w4 ⟨C, rfl, m1, m2, m3, b4⟩
  have Y4 := HY3.out.later b4
  have X4 := X3.out.later b4
  have d0 := Y4.dig
  have d1 := Y4.sgn
  have f0 := Y4.frz 0
  obtain ⟨w5, hw5⟩ : ∃ w5, w4.setCell ⟨w2.heap.size, 0, none⟩ (.slice (some ⟨w3.heap.size, 0, none⟩) 24 24) = w5 := ⟨_, rfl⟩
  have Y5 := Y4.put0 (.slice (some ⟨w3.heap.size, 0, none⟩) 24 24)
  have X5 := hid (X4.far (p := ⟨w2.heap.size, 0, none⟩) (show w.heap.size ≠ w2.heap.size by omega) (.slice (some ⟨w3.heap.size, 0, none⟩) 24 24))
  have Q5 := hid ((below_up Q3.out b4).setCell (p := ⟨w2.heap.size, 0, none⟩) (show w.heap.size ≤ w2.heap.size by omega) (.slice (some ⟨w3.heap.size, 0, none⟩) 24 24))
  have M5 := hid (NmB.far (w := w4) (g := w3.heap.size) (x := V) ⟨C, m1, m2, by rw [m3, N3.out, HV.out]⟩ (p := ⟨w2.heap.size, 0, none⟩) (show w3.heap.size ≠ w2.heap.size by have := S3.out; omega) (.slice (some ⟨w3.heap.size, 0, none⟩) 24 24))
  rw [hw5] at Y5 X5 Q5 M5
  have HY5 := hid Y5
  have k0 := Y5.dig
  have k1 := Y5.sgn
  have s5 : w.heap.size < w5.heap.size := X5.out.lt
  clear Y4 X4 Y5 m1 m2 m3 b4
  go_wp2_with fail
  go_region_with first
    | (go_at_call 31; refine (CU.out _).mono ?_; rintro e wa ⟨gu, rfl, hgu, NU, ba⟩; have YA := Bn.later (w := w5.drew) HY5.out ba; have XA := hid (Bn.later (w := w5.drew) X5.out ba); have VA := hid (NmB.later (w := w5.drew) (g := w3.heap.size) (x := V) (by obtain ⟨F, x1, x2⟩ := M5.out; exact ⟨F, x1.same rfl, x2⟩) ba); have UA := hid NU; have QA := hid (below_up (b := w5.drew) Q5.out.drew ba); have j0 := YA.dig; have j1 := YA.sgn; clear YA NU ba)
    | (go_at_call 32; refine (CP.out _ _ _ VA.out UA.out).mono ?_; rintro e wb ⟨gp, rfl, hgp, NB, bb⟩; have ZB := XA.out.later bb; have szb : w.heap.size < gp := Nat.lt_of_lt_of_le XA.out.lt hgp; have z0 := ZB.dig; have z1 := ZB.sgn; have q0 := ZB.frz 0; have q1 := ZB.frz 1; have P := hid (ZB.put (.slice (some ⟨gp, 0, none⟩) 24 24) z); have BP := hid (below_put (below_up QA.out bb) (Nat.le_refl w.heap.size) (.slice (some ⟨gp, 0, none⟩) 24 24) (.bool z)); have NP := hid ((NB.far (p := ⟨w.heap.size, 0, none⟩) (show gp ≠ w.heap.size by omega) (.slice (some ⟨gp, 0, none⟩) 24 24)).far (p := ⟨w.heap.size, 1, none⟩) (show gp ≠ w.heap.size by omega) (.bool z)); clear ZB NB bb)
  all_goals
    generalize World.setCell _ _ _ = w9 at *
    go_wp2_with fail
    have e0 := P.out.dig
    have e1 := P.out.sgn
    simp [bodyPost, results, Tryd.results36, go_sem, e0, e1]
    exact ⟨by omega, NP.out, BP.out⟩
end Go.Proofs.YtdfmaicmbnjilaaDoor
