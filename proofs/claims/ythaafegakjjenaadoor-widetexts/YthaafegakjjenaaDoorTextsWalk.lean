/-
  WideTexts.
-/
import Derived.Test.YthaafegakjjenaaDoorWTxt
import Derived.Test.YthaafegakjjenaaDoorWKnown
namespace Go.Proofs.YthaafegakjjenaaDoor
open Go.RowKit Wd

set_option maxRecDepth 8000 in
set_option maxHeartbeats 4000000 in
theorem texts_walk (a : Int) (ha : Is a) (w : World) (ht : Tb w) : Calls Tryd.prog 6 #[.agg #[.int .i64 (hi (a)), .int .u64 (lo (a))]] w fun e w' => e = .returned (.bool true) ∧ Below w.heap.size w w' := by
  obtain ⟨s, hs⟩ : ∃ s, decide (a < 0) = s := ⟨_, rfl⟩
  obtain ⟨w1, hw1⟩ : ∃ w1, w.alloc (.cells #[.int .i64 (hi a), .int .u64 (lo a)] 24) = w1 := ⟨_, rfl⟩
  have b1 : Below w.heap.size w w1 := by rw [← hw1]; exact below_new _ _
  have X1 : Hid (Bw w1 w.heap.size (hi a) (lo a)) := by rw [← hw1]; exact Bw.new _ _ _
  have CN := hid (cNum a s ha hs w1)
  have CT := hid (rText a s hs)
  have CX := hid fun W hW => text_any a ha W hW
  have c0 := X1.out.hi
  have c1 := X1.out.lo
  have B1 := hid b1
  have HT := hid ht
  clear b1 ht hs ha
  generalize txt a = T at *
  generalize hi a = H at *
  generalize lo a = L at *
  have hTT : (T.toList == T.toList) = true := by simp
  go_enter Tryd.func6, Tryd.ntmps6
  go_wp2_with fail
  refine CN.out.mono ?_
  rintro e w2 ⟨g, rfl, -, N2, b2⟩
  have HN := hid N2
  have B2 := hid (below_up B1.out b2)
  have X2 := hid (X1.out.later b2)
  clear b2 N2 X1 B1 c0 c1 hw1
  go_wp2_with fail
  refine (CT.out _ _ HN.out).mono ?_
  rintro e w3 ⟨rfl, b3⟩
  have B3 := hid (below_up B2.out b3)
  have X3 := hid (X2.out.later b3)
  have c0 := X3.out.hi
  have c1 := X3.out.lo
  clear b3 B2 X2 HN
  go_wp2_with fail
  refine (CX.out _ (HT.out.later B3.out)).mono ?_
  rintro e w4 ⟨rfl, b4⟩
  have B4 := hid (below_up B3.out b4)
  clear b4 c0 c1 X3 B3
  go_wp2_with fail
  refine (known_any _ (HT.out.later B4.out)).mono ?_
  rintro e w5 ⟨rfl, b5⟩
  go_wp2_with fail
  go_ret
  exact ⟨rfl, below_up B4.out b5⟩
end Go.Proofs.YthaafegakjjenaaDoor
