/-
  AggNames, walked.
-/
import Derived.Test.YtlidolocibfbgaaGreatDoorANames
namespace Go.Proofs.YtlidolocibfbgaaGreatDoor
open Go.ChangeShapes Go.WideShapes Go.ChangeAt Go.RowKit Sl Bt

attribute [local go_sem] run_store_float
theorem eqF (w : World) : Sem.run Tryz.prog (Op.equalIn 9998 34 (Value.float FloatKind.f64 0) (Value.float FloatKind.f64 0)) w = Result.ok true w := by kernel_rfl
attribute [local go_sem] eqF
set_option maxRecDepth 8000 in
set_option maxHeartbeats 16000000 in
theorem aggNames_walk (w : World) (hT : Tab w) : Calls Tryz.prog 3 #[] w fun e w' => e = .returned (.bool true) ∧ Below w.heap.size w w' := by
  have b1 := below_new w (.cells Z7 30)
  have h1 := heap_alloc_new w (.cells Z7 30)
  obtain ⟨w1, hw1⟩ : ∃ w1, w.alloc (.cells Z7 30) = w1 := ⟨_, rfl⟩
  rw [hw1] at b1 h1
  have hs : w.heap.size < w1.heap.size := by rw [← hw1]; simp
  have HT := hid fun (W : World) (h : Below w.heap.size w W) => (Tab.on hT h : Tab W)
  have HZ := hid fun (W : World) (h : Below w1.heap.size w1 W) => NoCh.later (.inr ⟨_, rfl, hs, h1⟩ : NoCh w1 (.pointer (some ⟨w.heap.size, 0, none⟩))) h
  have HB := hid b1
  unfold Z7 at hw1
  have L : Hid (Below w1.heap.size w1 w1) := Below.refl _ _
  clear b1 h1 hs hT
  go_enter Tryz.func3, Tryz.ntmps3
  go_wp2_with fail
  refine (None_any 0 w1 (by decide) (HT.out _ HB.out)).mono ?_
  rintro e w2 ⟨v, rfl, T, x, rfl, -, hb⟩
  replace L := hid (below_up L.out hb)
  clear hb hw1
  go_wp2_with fail
  refine (fold_no (.pointer none) _ w2 (.inl rfl)).mono ?_
  rintro e w3 ⟨rfl, hb⟩
  replace L := hid (below_up L.out hb)
  clear hb
  obtain ⟨z3, hz3, hc3, hbz3⟩ := box12 w3
  obtain ⟨u3, hu3⟩ : ∃ u, w3.alloc (.cells Z12 38) = u := ⟨_, rfl⟩
  have hn3 := heap_alloc_new w3 (.cells Z12 38)
  rw [hu3] at hz3 hn3
  obtain ⟨⟨x0, x1, x2, x3, x4, x5, x6, x7, x8, x9, x10, x11⟩, fz⟩ := cells12 hn3
  unfold Z12 at hu3
  replace L := hid (below_up L.out hbz3)
  have C3 := hid hc3
  clear hc3 hbz3 hn3
  unfold Z12
  go_wp2_with fail
  clear x0 x1 x2 x3 x4 x5 x6 x7 x8 x9 x10 x11 fz hz3 hu3
  refine (None_any 0 z3 (by decide) (HT.out _ (below_up HB.out L.out))).mono ?_
  rintro e w4 ⟨v, rfl, T2, x2, rfl, -, hb⟩
  replace L := hid (below_up L.out hb)
  replace C3 := hid ((hb.block _ (Array.getElem?_eq_some_iff.1 C3.out).1).trans C3.out)
  clear hb
  go_wp2_with fail
  refine (fold_no _ _ w4 (HZ.out _ L.out)).mono ?_
  rintro e w5 ⟨rfl, hb⟩
  replace L := hid (below_up L.out hb)
  replace C3 := hid ((hb.block _ (Array.getElem?_eq_some_iff.1 C3.out).1).trans C3.out)
  clear hb
  obtain ⟨z5, hz5, hc5, hbz5⟩ := box12 w5
  obtain ⟨u5, hu5⟩ : ∃ u, w5.alloc (.cells Z12 38) = u := ⟨_, rfl⟩
  have hn5 := heap_alloc_new w5 (.cells Z12 38)
  rw [hu5] at hz5 hn5
  obtain ⟨⟨x0, x1, x2, x3, x4, x5, x6, x7, x8, x9, x10, x11⟩, fz⟩ := cells12 hn5
  unfold Z12 at hu5
  replace L := hid (below_up L.out hbz5)
  replace C3 := hid ((hbz5.block _ (Array.getElem?_eq_some_iff.1 C3.out).1).trans C3.out)
  have C5 := hid hc5
  clear hc5 hbz5 hn5
  unfold Z12
  go_wp2_with fail
  clear x0 x1 x2 x3 x4 x5 x6 x7 x8 x9 x10 x11 fz hz5 hu5
  refine (fold_no (.pointer none) .nilIface z5 (.inl rfl)).mono ?_
  rintro e w6 ⟨rfl, hb⟩
  replace L := hid (below_up L.out hb)
  replace C3 := hid ((hb.block _ (Array.getElem?_eq_some_iff.1 C3.out).1).trans C3.out)
  replace C5 := hid ((hb.block _ (Array.getElem?_eq_some_iff.1 C5.out).1).trans C5.out)
  clear hb
  obtain ⟨z6, hz6, hc6, hbz6⟩ := box12 w6
  obtain ⟨u6, hu6⟩ : ∃ u, w6.alloc (.cells Z12 38) = u := ⟨_, rfl⟩
  have hn6 := heap_alloc_new w6 (.cells Z12 38)
  rw [hu6] at hz6 hn6
  obtain ⟨⟨x0, x1, x2, x3, x4, x5, x6, x7, x8, x9, x10, x11⟩, fz⟩ := cells12 hn6
  unfold Z12 at hu6
  replace L := hid (below_up L.out hbz6)
  replace C3 := hid ((hbz6.block _ (Array.getElem?_eq_some_iff.1 C3.out).1).trans C3.out)
  replace C5 := hid ((hbz6.block _ (Array.getElem?_eq_some_iff.1 C5.out).1).trans C5.out)
  have C6 := hid hc6
  clear hc6 hbz6 hn6
  unfold Z12
  go_wp2_with fail
  clear x0 x1 x2 x3 x4 x5 x6 x7 x8 x9 x10 x11 fz hz6 hu6
  refine (none_any z6).mono ?_
  rintro e w7 ⟨rfl, hb⟩
  replace L := hid (below_up L.out hb)
  replace C3 := hid ((hb.block _ (Array.getElem?_eq_some_iff.1 C3.out).1).trans C3.out)
  replace C5 := hid ((hb.block _ (Array.getElem?_eq_some_iff.1 C5.out).1).trans C5.out)
  replace C6 := hid ((hb.block _ (Array.getElem?_eq_some_iff.1 C6.out).1).trans C6.out)
  clear hb
  obtain ⟨⟨p0, p1, p2, p3, p4, p5, p6, p7, p8, p9, p10, p11⟩, f3⟩ := cells12 C3.out
  obtain ⟨⟨q0, q1, q2, q3, q4, q5, q6, q7, q8, q9, q10, q11⟩, f5⟩ := cells12 C5.out
  obtain ⟨⟨r0, r1, r2, r3, r4, r5, r6, r7, r8, r9, r10, r11⟩, f6⟩ := cells12 C6.out
  unfold Z12
  go_wp2_with fail
  clear p0 p1 p2 p3 p4 p5 p6 p7 p8 p9 p10 p11 q0 q1 q2 q3 q4 q5 q6 q7 q8 q9 q10 q11 r0 r1 r2 r3 r4 r5 r6 r7 r8 r9 r10 r11 f3 f5 f6
  refine (merge_no _).mono ?_
  rintro e w8 ⟨rfl, hb⟩
  replace L := hid (below_up L.out hb)
  clear hb
  unfold Z12
  go_wp2_with fail
  go_ret
  exact ⟨rfl, below_up HB.out L.out⟩
end Go.Proofs.YtlidolocibfbgaaGreatDoor
