/-
  WideReads.
-/
import Derived.Test.YthaafegakjjenaaDoorWRdD
import Derived.Test.YthaafegakjjenaaDoorWKnown
import Derived.Deep.Cut
namespace Go.Proofs.YthaafegakjjenaaDoor
open Go.RowKit Wd

set_option maxRecDepth 8000 in
set_option maxHeartbeats 4000000 in
theorem reads_walk (s : ByteArray) (hs : s.size ≤ 9223372036854775807) (w : World) (ht : Tb w) : Calls Tryd.prog 7 #[.string s] w fun e w' => e = .returned (.bool true) ∧ Below w.heap.size w w' := by
  have CD := hid (rRead s hs w)
  have CP := hid fun W hW => read_any s hs W hW
  have hI := rdV_is s
  have hbnd := is_bound hI
  obtain ⟨v, hv⟩ : ∃ v, rdV s = v := ⟨_, rfl⟩
  obtain ⟨b, hb⟩ : ∃ b, rdB s = b := ⟨_, rfl⟩
  rw [hv, hb] at CD CP
  rw [hv] at hbnd
  have HBD := hid hbnd
  have HT := hid ht
  clear hv hb hI hbnd ht hs
  go_enter Tryd.func7, Tryd.ntmps7
  go_wp2_with fail
  refine CD.out.mono ?_
  rintro e w1 ⟨g, sg, rfl, N1, hsg, b1⟩
  have CO := hid (lOf v sg hsg HBD.out)
  obtain ⟨w2, hw2⟩ : ∃ w2, w1.alloc (.cells #[.slice none 0 0, .bool false] 40) = w2 := ⟨_, rfl⟩
  have b2 : Below w1.heap.size w1 w2 := by rw [← hw2]; exact below_new _ _
  have Z2 : Bn w2 w1.heap.size (.slice none 0 0) false := by rw [← hw2]; exact Bn.new _ _ _
  have z0 := Z2.dig
  have z1 := Z2.sgn
  have f0 := Z2.frz 0
  have f1 := Z2.frz 1
  have b12 := below_up b1 b2
  have X3 := hid (Z2.pt (.slice (some ⟨g, 0, none⟩) 24 24) sg)
  have N3 := hid ((N1.later b2).off Z2 (.slice (some ⟨g, 0, none⟩) 24 24) (.bool sg))
  have B3 := hid (below_pt b12 b1.size (.slice (some ⟨g, 0, none⟩) 24 24) (.bool sg))
  unfold pt at X3 N3 B3
  clear Z2 b1 b2 b12 N1 hsg HBD
  go_upto_region 2 with fail
  generalize World.setCell _ _ _ = w3 at *
  generalize w1.heap.size = bX at *
  clear z0 z1 f0 f1 hw2
  go_wp2_with fail
  refine (CP.out _ (HT.out.later B3.out)).mono ?_
  rintro e w4 ⟨rfl, b4⟩
  generalize hi v = H at *
  generalize lo v = L at *
  obtain ⟨w5, hw5⟩ : ∃ w5, w4.alloc (.cells #[.int .i64 H, .int .u64 L] 24) = w5 := ⟨_, rfl⟩
  have b5 : Below w4.heap.size w4 w5 := by rw [← hw5]; exact below_new _ _
  have b45 := below_up b4 b5
  have W5 : Hid (Bw w5 w4.heap.size H L) := by rw [← hw5]; exact Bw.new _ _ _
  have X5 := hid (X3.out.later b45)
  have N5 := hid (N3.out.later b45)
  have B5 := hid (below_up B3.out b45)
  clear b4 b5 b45 X3 N3 B3
  have hbb : (b == b) = true := by simp
  go_upto_region 3 with fail
  clear hw5
  have p0 : ∀ W, Below w5.heap.size w5 W → W.cell? ⟨w4.heap.size, 0, none⟩ = some (.int .i64 H) := fun W h => (W5.out.later h).hi
  have p1 : ∀ W, Below w5.heap.size w5 W → W.cell? ⟨w4.heap.size, 1, none⟩ = some (.int .u64 L) := fun W h => (W5.out.later h).lo
  have p2 : ∀ W, Below w5.heap.size w5 W → W.cell? ⟨bX, 0, none⟩ = some (.slice (some ⟨g, 0, none⟩) 24 24) := fun W h => (X5.out.later h).dig
  have p3 : ∀ W, Below w5.heap.size w5 W → W.cell? ⟨bX, 1, none⟩ = some (.bool sg) := fun W h => (X5.out.later h).sgn
  go_region_held3 (fun W => Below w5.heap.size w5 W) (first | assumption | exact (Below.refl _ _).drew | exact Below.drew (by assumption) | exact below_up (by assumption) (by assumption)) ((first | (go_at_call 24; refine (CO.out _ _ (N5.out.later (by assumption))).mono ?_; rintro e w' ⟨rfl, hb⟩) | (go_at_call 8; refine (known_any _ (HT.out.later (below_up B5.out (by assumption)))).mono ?_; rintro e w' ⟨rfl, hb⟩)))
  rename World => wZ
  have bZ : Below w5.heap.size w5 wZ := by assumption
  go_wp2_with fail
  go_ret
  exact ⟨rfl, below_up B5.out bZ⟩
end Go.Proofs.YthaafegakjjenaaDoor
