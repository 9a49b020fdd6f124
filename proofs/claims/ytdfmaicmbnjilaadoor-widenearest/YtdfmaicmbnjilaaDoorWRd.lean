/-
  Package wide: Read.
-/
import Derived.Test.YtdfmaicmbnjilaaDoorWGuess
namespace Go.Proofs.YtdfmaicmbnjilaaDoor
open Go.RowKit Wd

/-- Is a text a wide's? And of which? -/
def rdN (s : ByteArray) : Int := nrm (guessI s.data.toList)
def rdB (s : ByteArray) : Bool := decide (s.size ≤ 40) && (txt (rdN s)).toList == s.toList
def rdV (s : ByteArray) : Int := if rdB s then rdN s else 0
theorem rdV_yes {s : ByteArray} (h : rdB s = true) : rdV s = rdN s := by unfold rdV; rw [if_pos h]
theorem rdV_no {s : ByteArray} (h : rdB s = false) : rdV s = 0 := by unfold rdV; rw [h]; rfl
set_option maxRecDepth 8000 in
set_option maxHeartbeats 1600000 in
theorem read_any (s : ByteArray) (hs : s.size ≤ 9223372036854775807) (w : World) (ht : Tb w) : Calls Tryd.prog 17 #[.string s] w fun e w' => e = .returned (.tuple #[.agg #[.int .i64 (hi (rdV s)), .int .u64 (lo (rdV s))], .bool (rdB s)]) ∧ Below w.heap.size w w' := by
  by_cases h40 : s.size ≤ 40
  · have h40' : ¬ (40 : Int) < (s.size : Int) := by omega
    have CG := hid (guess_any s hs)
    rw [← hi_nrm, ← lo_nrm] at CG
    have CT := hid fun W hW => text_any (rdN s) (nrm_is _) W hW
    unfold rdN at CT
    have HT := hid ht
    obtain ⟨w1, hw1⟩ : ∃ w1, w.alloc (.cells #[.int .i64 0, .int .u64 0] 24) = w1 := ⟨_, rfl⟩
    have b1 : Below w.heap.size w w1 := by rw [← hw1]; exact below_new _ _
    have X1 : Hid (Bw w1 w.heap.size 0 0) := by rw [← hw1]; exact Bw.new _ _ _
    have B1 := hid b1
    clear b1 ht
    cases hq : (txt (rdN s)).toList == s.toList
    · have hB : rdB s = false := by unfold rdB; rw [hq]; simp
      rw [rdV_no hB, hB, hi0, lo0]
      clear hB
      unfold rdN at hq
      generalize nrm (guessI s.data.toList) = a at *
      generalize hi a = h1 at *
      generalize lo a = l1 at *
      generalize txt a = T at *
      go_enter Tryd.func17, Tryd.ntmps17
      go_wp2_with fail
      refine (CG.out _).mono ?_
      rintro e w2 ⟨rfl, b2⟩
      obtain ⟨w3, hw3⟩ : ∃ w3, w2.alloc (.cells #[.int .i64 h1, .int .u64 l1] 24) = w3 := ⟨_, rfl⟩
      have b3 : Below w2.heap.size w2 w3 := by rw [← hw3]; exact below_new _ _
      have X3 : Bw w3 w2.heap.size h1 l1 := by rw [← hw3]; exact Bw.new _ _ _
      have c0 := X3.hi
      have c1 := X3.lo
      have Y3 := hid (X1.out.later (below_up b2 b3))
      have B3 := hid (below_up B1.out (below_up b2 b3))
      clear b2 b3 X3
      go_wp2_with fail
      refine (CT.out _ (HT.out.later B3.out)).mono ?_
      rintro e w4 ⟨rfl, b4⟩
      have Y4 := Y3.out.later b4
      have d0 := Y4.hi
      have d1 := Y4.lo
      have f0 := Y4.frz 0
      have f1 := Y4.frz 1
      have X5 := hid (Y4.put 0 0)
      have B5 := hid (below_put (below_up B3.out b4) (Nat.le_refl w.heap.size) (.int .i64 0) (.int .u64 0))
      clear b4 Y4 HT
      go_wp2_with fail
      generalize World.setCell _ _ _ = w9 at *
      have e0 := X5.out.hi
      have e1 := X5.out.lo
      simp [bodyPost, results, Tryd.results17, go_sem, e0, e1]
      exact B5.out
    · have hB : rdB s = true := by unfold rdB; rw [hq]; simp [h40]
      rw [rdV_yes hB, hB]
      clear hB
      unfold rdN at hq ⊢
      generalize nrm (guessI s.data.toList) = a at *
      generalize hi a = h1 at *
      generalize lo a = l1 at *
      generalize txt a = T at *
      go_enter Tryd.func17, Tryd.ntmps17
      go_wp2_with fail
      refine (CG.out _).mono ?_
      rintro e w2 ⟨rfl, b2⟩
      obtain ⟨w3, hw3⟩ : ∃ w3, w2.alloc (.cells #[.int .i64 h1, .int .u64 l1] 24) = w3 := ⟨_, rfl⟩
      have b3 : Below w2.heap.size w2 w3 := by rw [← hw3]; exact below_new _ _
      have X3 : Bw w3 w2.heap.size h1 l1 := by rw [← hw3]; exact Bw.new _ _ _
      have c0 := X3.hi
      have c1 := X3.lo
      have Y3 := hid (X1.out.later (below_up b2 b3))
      have Z3 := hid X3
      have B3 := hid (below_up B1.out (below_up b2 b3))
      clear b2 b3 X3
      go_wp2_with fail
      refine (CT.out _ (HT.out.later B3.out)).mono ?_
      rintro e w4 ⟨rfl, b4⟩
      have Y4 := Y3.out.later b4
      have Z4 := Z3.out.later b4
      have d0 := Y4.hi
      have d1 := Y4.lo
      have f0 := Y4.frz 0
      have f1 := Y4.frz 1
      have d2 := Z4.hi
      have d3 := Z4.lo
      have X5 := hid (Y4.put h1 l1)
      have B5 := hid (below_put (below_up B3.out b4) (Nat.le_refl w.heap.size) (.int .i64 h1) (.int .u64 l1))
      clear b4 Y4 Z4 HT
      go_wp2_with fail
      generalize World.setCell _ _ _ = w9 at *
      have e0 := X5.out.hi
      have e1 := X5.out.lo
      simp [bodyPost, results, Tryd.results17, go_sem, e0, e1]
      exact B5.out
  · have h40' : (40 : Int) < (s.size : Int) := by omega
    have hB : rdB s = false := by unfold rdB; simp [h40]
    rw [rdV_no hB, hB, hi0, lo0]
    clear hB
    go_enter Tryd.func17, Tryd.ntmps17
    go_wp2_with fail
    simp [bodyPost, results, Tryd.results17, go_sem]
    exact below_new _ _
end Go.Proofs.YtdfmaicmbnjilaaDoor
