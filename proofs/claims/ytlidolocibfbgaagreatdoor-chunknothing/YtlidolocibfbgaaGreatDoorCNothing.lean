/-
  ChunkNothing, walked. (Written by mknone.py.)
-/
import Derived.Test.YtlidolocibfbgaaGreatDoorCNone
import Derived.Test.YtlidolocibfbgaaGreatDoorCKnown
namespace Go.Proofs.YtlidolocibfbgaaGreatDoor
open Go.ChangeShapes Go.WideShapes Go.ChangeAt Go.RowKit

attribute [local go_sem] run_store_float
theorem eqFc (w : World) : Sem.run Tryz.prog (Op.equalIn 9998 34 (Value.float FloatKind.f64 0) (Value.float FloatKind.f64 0)) w = Result.ok true w := by kernel_rfl
theorem eqFd (w : World) : Sem.run Tryz.prog (Op.equalIn 9999 34 (Value.float FloatKind.f64 0) (Value.float FloatKind.f64 0)) w = Result.ok true w := by kernel_rfl
attribute [local go_sem] eqFc eqFd
theorem put3_ex {w : World} {g : Nat} (s : ByteArray) (T : Int) (b : Bool) (h : w.heap[g]? = some (.cells #[.string ⟨#[]⟩, .int .i64 0, .bool false] 23 (0, 0))) : ∃ z, ((w.setCell ⟨g, 0, none⟩ (.string s)).setCell ⟨g, 1, none⟩ (.int .i64 T)).setCell ⟨g, 2, none⟩ (.bool b) = z ∧ z.heap[g]? = some (.cells #[.string s, .int .i64 T, .bool b] 23 (0, 0)) ∧ (∀ {B : Nat} {a : World}, B ≤ g → Below B a w → Below B a z) := by
  have H := bx_set0 (i := 2) (bx_set0 (i := 1) (bx_set0 (i := 0) h (.string s)) (.int .i64 T)) (.bool b)
  exact ⟨_, rfl, H, fun hg hb => (((hb.setCell (p := ⟨g, 0, none⟩) hg _).setCell (p := ⟨g, 1, none⟩) hg _).setCell (p := ⟨g, 2, none⟩) hg _)⟩
set_option maxRecDepth 8000 in
set_option maxHeartbeats 32000000 in
theorem chunkNothing_walk (w : World) (hT : Bt.Tab w) : Calls Tryz.prog 4 #[] w fun e w' => e = .returned (.bool true) ∧ Below w.heap.size w w' := by
  have b1 := below_new w (.cells Z7 30)
  have h1 := heap_alloc_new w (.cells Z7 30)
  obtain ⟨w1, hw1⟩ : ∃ w1, w.alloc (.cells Z7 30) = w1 := ⟨_, rfl⟩
  rw [hw1] at b1 h1
  have hs : w.heap.size < w1.heap.size := by rw [← hw1]; simp
  have HT := hid fun (W : World) (h : Below w.heap.size w W) => (Sl.Tab.on hT h : Bt.Tab W)
  have HZ := hid fun (W : World) (h : Below w1.heap.size w1 W) => NoCh.later (.inr ⟨_, rfl, hs, h1⟩ : NoCh w1 (.pointer (some ⟨w.heap.size, 0, none⟩))) h
  have HB := hid b1
  unfold Z7 at hw1
  have L : Hid (Below w1.heap.size w1 w1) := Below.refl _ _
  clear b1 h1 hs hT
  go_enter Tryz.func4, Tryz.ntmps4
  go_wp2_with fail
  clear hw1
  refine (value_no (.pointer none) _ (.inl rfl)).mono ?_
  rintro e w2 ⟨rfl, hb⟩
  replace L := hid (below_up L.out hb)
  clear hb
  have bz := below_new w2 (.cells #[.int .i64 0, .int .i64 0, .float .f64 0, .string ⟨#[]⟩] 36)
  have hz := heap_alloc_new w2 (.cells #[.int .i64 0, .int .i64 0, .float .f64 0, .string ⟨#[]⟩] 36)
  obtain ⟨u3, hu3⟩ : ∃ u, w2.alloc (.cells #[.int .i64 0, .int .i64 0, .float .f64 0, .string ⟨#[]⟩] 36) = u := ⟨_, rfl⟩
  rw [hu3] at bz hz
  obtain ⟨v3, hv3, hc, hbz⟩ := put4_ex hz
  have hb2 := hbz (Nat.le_refl _) bz
  obtain ⟨⟨x0, x1, x2, x3⟩, fz⟩ := cells4 hz
  replace L := hid (below_up L.out hb2)
  have C3 := hid hc
  clear bz hz hc hbz hb2
  go_wp2_with fail
  clear hu3 hv3 x0 x1 x2 x3 fz
  refine (value_no _ _ (HZ.out _ L.out)).mono ?_
  rintro e w4 ⟨rfl, hb⟩
  replace L := hid (below_up L.out hb)
  replace C3 := hid ((hb.block _ (Array.getElem?_eq_some_iff.1 C3.out).1).trans C3.out)
  clear hb
  have bz := below_new w4 (.cells #[.int .i64 0, .int .i64 0, .float .f64 0, .string ⟨#[]⟩] 36)
  have hz := heap_alloc_new w4 (.cells #[.int .i64 0, .int .i64 0, .float .f64 0, .string ⟨#[]⟩] 36)
  obtain ⟨u5, hu5⟩ : ∃ u, w4.alloc (.cells #[.int .i64 0, .int .i64 0, .float .f64 0, .string ⟨#[]⟩] 36) = u := ⟨_, rfl⟩
  rw [hu5] at bz hz
  obtain ⟨v5, hv5, hc, hbz⟩ := put4_ex hz
  have hb2 := hbz (Nat.le_refl _) bz
  obtain ⟨⟨x0, x1, x2, x3⟩, fz⟩ := cells4 hz
  replace L := hid (below_up L.out hb2)
  replace C3 := hid ((hb2.block _ (Array.getElem?_eq_some_iff.1 C3.out).1).trans C3.out)
  have C5 := hid hc
  clear bz hz hc hbz hb2
  go_wp2_with fail
  clear hu5 hv5 x0 x1 x2 x3 fz
  refine (Sl.Whole_any 0 v5 (by decide) (HT.out _ (below_up HB.out L.out))).mono ?_
  rintro e w6 ⟨vv, rfl, TT, xx, rfl, -, hb⟩
  replace L := hid (below_up L.out hb)
  replace C3 := hid ((hb.block _ (Array.getElem?_eq_some_iff.1 C3.out).1).trans C3.out)
  replace C5 := hid ((hb.block _ (Array.getElem?_eq_some_iff.1 C5.out).1).trans C5.out)
  clear hb
  go_wp2_with fail
  refine (gather_no (.pointer none) _ _ (.inl rfl)).mono ?_
  rintro e w7 ⟨rfl, hb⟩
  replace L := hid (below_up L.out hb)
  replace C3 := hid ((hb.block _ (Array.getElem?_eq_some_iff.1 C3.out).1).trans C3.out)
  replace C5 := hid ((hb.block _ (Array.getElem?_eq_some_iff.1 C5.out).1).trans C5.out)
  clear hb
  go_wp2_with fail
  refine (Sl.Whole_any 0 w7 (by decide) (HT.out _ (below_up HB.out L.out))).mono ?_
  rintro e w8 ⟨vv, rfl, TT, xx, rfl, -, hb⟩
  replace L := hid (below_up L.out hb)
  replace C3 := hid ((hb.block _ (Array.getElem?_eq_some_iff.1 C3.out).1).trans C3.out)
  replace C5 := hid ((hb.block _ (Array.getElem?_eq_some_iff.1 C5.out).1).trans C5.out)
  clear hb
  go_wp2_with fail
  refine (gather_no _ _ _ (HZ.out _ L.out)).mono ?_
  rintro e w9 ⟨rfl, hb⟩
  replace L := hid (below_up L.out hb)
  replace C3 := hid ((hb.block _ (Array.getElem?_eq_some_iff.1 C3.out).1).trans C3.out)
  replace C5 := hid ((hb.block _ (Array.getElem?_eq_some_iff.1 C5.out).1).trans C5.out)
  clear hb
  go_wp2_with fail
  refine (rows_no (.pointer none) _ (.inl rfl)).mono ?_
  rintro e w10 ⟨rfl, hb⟩
  replace L := hid (below_up L.out hb)
  replace C3 := hid ((hb.block _ (Array.getElem?_eq_some_iff.1 C3.out).1).trans C3.out)
  replace C5 := hid ((hb.block _ (Array.getElem?_eq_some_iff.1 C5.out).1).trans C5.out)
  clear hb
  go_wp2_with fail
  refine (count_no (.pointer none) _ (.inl rfl)).mono ?_
  rintro e w11 ⟨rfl, hb⟩
  replace L := hid (below_up L.out hb)
  replace C3 := hid ((hb.block _ (Array.getElem?_eq_some_iff.1 C3.out).1).trans C3.out)
  replace C5 := hid ((hb.block _ (Array.getElem?_eq_some_iff.1 C5.out).1).trans C5.out)
  clear hb
  go_wp2_with fail
  refine (column_no (.pointer none) _ (.inl rfl)).mono ?_
  rintro e w12 ⟨rfl, hb⟩
  replace L := hid (below_up L.out hb)
  replace C3 := hid ((hb.block _ (Array.getElem?_eq_some_iff.1 C3.out).1).trans C3.out)
  replace C5 := hid ((hb.block _ (Array.getElem?_eq_some_iff.1 C5.out).1).trans C5.out)
  clear hb
  go_wp2_with fail
  refine (codec_no (.pointer none) _ (.inl rfl)).mono ?_
  rintro e w13 ⟨rfl, hb⟩
  replace L := hid (below_up L.out hb)
  replace C3 := hid ((hb.block _ (Array.getElem?_eq_some_iff.1 C3.out).1).trans C3.out)
  replace C5 := hid ((hb.block _ (Array.getElem?_eq_some_iff.1 C5.out).1).trans C5.out)
  clear hb
  go_wp2_with fail
  refine (nulls_no (.pointer none) _ (.inl rfl)).mono ?_
  rintro e w14 ⟨rfl, hb⟩
  replace L := hid (below_up L.out hb)
  replace C3 := hid ((hb.block _ (Array.getElem?_eq_some_iff.1 C3.out).1).trans C3.out)
  replace C5 := hid ((hb.block _ (Array.getElem?_eq_some_iff.1 C5.out).1).trans C5.out)
  clear hb
  go_wp2_with fail
  refine (body_no (.pointer none) _ (.inl rfl)).mono ?_
  rintro e w15 ⟨rfl, hb⟩
  replace L := hid (below_up L.out hb)
  replace C3 := hid ((hb.block _ (Array.getElem?_eq_some_iff.1 C3.out).1).trans C3.out)
  replace C5 := hid ((hb.block _ (Array.getElem?_eq_some_iff.1 C5.out).1).trans C5.out)
  clear hb
  go_wp2_with fail
  refine (values_no (.pointer none) _ (.inl rfl) (HT.out _ (below_up HB.out L.out))).mono ?_
  rintro e w16 ⟨rfl, hb⟩
  replace L := hid (below_up L.out hb)
  replace C3 := hid ((hb.block _ (Array.getElem?_eq_some_iff.1 C3.out).1).trans C3.out)
  replace C5 := hid ((hb.block _ (Array.getElem?_eq_some_iff.1 C5.out).1).trans C5.out)
  clear hb
  obtain ⟨⟨x0, x1, x2, x3⟩, fz⟩ := cells4 C3.out
  go_wp2_with fail
  clear x0 x1 x2 x3 fz
  refine (rows_no _ _ (HZ.out _ L.out)).mono ?_
  rintro e w17 ⟨rfl, hb⟩
  replace L := hid (below_up L.out hb)
  replace C3 := hid ((hb.block _ (Array.getElem?_eq_some_iff.1 C3.out).1).trans C3.out)
  replace C5 := hid ((hb.block _ (Array.getElem?_eq_some_iff.1 C5.out).1).trans C5.out)
  clear hb
  go_wp2_with fail
  refine (count_no _ _ (HZ.out _ L.out)).mono ?_
  rintro e w18 ⟨rfl, hb⟩
  replace L := hid (below_up L.out hb)
  replace C3 := hid ((hb.block _ (Array.getElem?_eq_some_iff.1 C3.out).1).trans C3.out)
  replace C5 := hid ((hb.block _ (Array.getElem?_eq_some_iff.1 C5.out).1).trans C5.out)
  clear hb
  go_wp2_with fail
  refine (column_no _ _ (HZ.out _ L.out)).mono ?_
  rintro e w19 ⟨rfl, hb⟩
  replace L := hid (below_up L.out hb)
  replace C3 := hid ((hb.block _ (Array.getElem?_eq_some_iff.1 C3.out).1).trans C3.out)
  replace C5 := hid ((hb.block _ (Array.getElem?_eq_some_iff.1 C5.out).1).trans C5.out)
  clear hb
  go_wp2_with fail
  refine (codec_no _ _ (HZ.out _ L.out)).mono ?_
  rintro e w20 ⟨rfl, hb⟩
  replace L := hid (below_up L.out hb)
  replace C3 := hid ((hb.block _ (Array.getElem?_eq_some_iff.1 C3.out).1).trans C3.out)
  replace C5 := hid ((hb.block _ (Array.getElem?_eq_some_iff.1 C5.out).1).trans C5.out)
  clear hb
  go_wp2_with fail
  refine (nulls_no _ _ (HZ.out _ L.out)).mono ?_
  rintro e w21 ⟨rfl, hb⟩
  replace L := hid (below_up L.out hb)
  replace C3 := hid ((hb.block _ (Array.getElem?_eq_some_iff.1 C3.out).1).trans C3.out)
  replace C5 := hid ((hb.block _ (Array.getElem?_eq_some_iff.1 C5.out).1).trans C5.out)
  clear hb
  go_wp2_with fail
  refine (body_no _ _ (HZ.out _ L.out)).mono ?_
  rintro e w22 ⟨rfl, hb⟩
  replace L := hid (below_up L.out hb)
  replace C3 := hid ((hb.block _ (Array.getElem?_eq_some_iff.1 C3.out).1).trans C3.out)
  replace C5 := hid ((hb.block _ (Array.getElem?_eq_some_iff.1 C5.out).1).trans C5.out)
  clear hb
  go_wp2_with fail
  refine (values_no _ _ (HZ.out _ L.out) (HT.out _ (below_up HB.out L.out))).mono ?_
  rintro e w23 ⟨rfl, hb⟩
  replace L := hid (below_up L.out hb)
  replace C3 := hid ((hb.block _ (Array.getElem?_eq_some_iff.1 C3.out).1).trans C3.out)
  replace C5 := hid ((hb.block _ (Array.getElem?_eq_some_iff.1 C5.out).1).trans C5.out)
  clear hb
  obtain ⟨⟨x0, x1, x2, x3⟩, fz⟩ := cells4 C5.out
  have bz := below_new w23 (.cells #[.string ⟨#[]⟩, .int .i64 0, .bool false] 23)
  have hz := heap_alloc_new w23 (.cells #[.string ⟨#[]⟩, .int .i64 0, .bool false] 23)
  obtain ⟨uc, huc⟩ : ∃ u, w23.alloc (.cells #[.string ⟨#[]⟩, .int .i64 0, .bool false] 23) = u := ⟨_, rfl⟩
  rw [huc] at bz hz
  obtain ⟨vc, hvc, hc, hbz⟩ := put3_ex ⟨#[98]⟩ 1 false hz
  have hb2 := hbz (Nat.le_refl _) bz
  have y0 := cell_of0 (i := 0) hz rfl
  have y1 := cell_of0 (i := 1) hz rfl
  have y2 := cell_of0 (i := 2) hz rfl
  have fy : ∀ j, uc.frozen? ⟨w23.heap.size, j, none⟩ = false := fun j => by simp [World.frozen?, hz]
  replace L := hid (below_up L.out hb2)
  replace C3 := hid ((hb2.block _ (Array.getElem?_eq_some_iff.1 C3.out).1).trans C3.out)
  replace C5 := hid ((hb2.block _ (Array.getElem?_eq_some_iff.1 C5.out).1).trans C5.out)
  have CC := hid hc
  clear bz hz hc hbz hb2
  have z0 : vc.cell? ⟨w23.heap.size, 0, none⟩ = some (.string ⟨#[98]⟩) := cell_of0 (i := 0) CC.out rfl
  have z1 : vc.cell? ⟨w23.heap.size, 1, none⟩ = some (.int .i64 1) := cell_of0 (i := 1) CC.out rfl
  have z2 : vc.cell? ⟨w23.heap.size, 2, none⟩ = some (.bool false) := cell_of0 (i := 2) CC.out rfl
  go_wp2_with fail
  clear huc hvc y0 y1 y2 fy z0 z1 z2 x0 x1 x2 x3 fz
  refine (open_no _ 1 (-1) _ _ _ (.inr (.inl (by decide)))).mono ?_
  rintro e wa ⟨rfl, hb⟩
  replace L := hid (below_up L.out hb)
  replace C3 := hid ((hb.block _ (Array.getElem?_eq_some_iff.1 C3.out).1).trans C3.out)
  replace C5 := hid ((hb.block _ (Array.getElem?_eq_some_iff.1 C5.out).1).trans C5.out)
  replace CC := hid ((hb.block _ (Array.getElem?_eq_some_iff.1 CC.out).1).trans CC.out)
  clear hb
  rw [show opE 1 (-1) = 2 from rfl]
  have z0 : wa.cell? ⟨w23.heap.size, 0, none⟩ = some (.string ⟨#[98]⟩) := cell_of0 (i := 0) CC.out rfl
  have z1 : wa.cell? ⟨w23.heap.size, 1, none⟩ = some (.int .i64 1) := cell_of0 (i := 1) CC.out rfl
  have z2 : wa.cell? ⟨w23.heap.size, 2, none⟩ = some (.bool false) := cell_of0 (i := 2) CC.out rfl
  go_wp2_with fail
  clear z0 z1 z2
  refine (open_no _ 1 16777217 _ _ _ (.inr (.inr (by decide)))).mono ?_
  rintro e wb ⟨rfl, hb⟩
  replace L := hid (below_up L.out hb)
  replace C3 := hid ((hb.block _ (Array.getElem?_eq_some_iff.1 C3.out).1).trans C3.out)
  replace C5 := hid ((hb.block _ (Array.getElem?_eq_some_iff.1 C5.out).1).trans C5.out)
  replace CC := hid ((hb.block _ (Array.getElem?_eq_some_iff.1 CC.out).1).trans CC.out)
  clear hb
  rw [show opE 1 16777217 = 3 from rfl]
  go_wp2_with fail
  refine (open_no _ 3 (-1) _ _ _ (.inl ⟨by decide, by decide⟩)).mono ?_
  rintro e wd ⟨rfl, hb⟩
  replace L := hid (below_up L.out hb)
  replace C3 := hid ((hb.block _ (Array.getElem?_eq_some_iff.1 C3.out).1).trans C3.out)
  replace C5 := hid ((hb.block _ (Array.getElem?_eq_some_iff.1 C5.out).1).trans C5.out)
  replace CC := hid ((hb.block _ (Array.getElem?_eq_some_iff.1 CC.out).1).trans CC.out)
  clear hb
  rw [show opE 3 (-1) = 150 from rfl]
  go_wp2_with fail
  refine (Ck.known_any _ (HT.out _ (below_up HB.out L.out))).mono ?_
  rintro e we ⟨rfl, hb⟩
  replace L := hid (below_up L.out hb)
  clear hb
  go_wp2_with fail
  go_ret
  exact ⟨rfl, below_up HB.out L.out⟩
end Go.Proofs.YtlidolocibfbgaaGreatDoor
