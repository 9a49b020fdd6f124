/-
  Bounds. (Written by mkbnd.py.)
-/
import Derived.Test.YthlfdmigmgpgfaaACb
import Derived.Test.YthlfdmigmgpgfaaAMin
import Derived.Test.YthlfdmigmgpgfaaAMax
namespace Go.Proofs.Ythlfdmigmgpgfaa
open Go.ChangeShapes Go.WideShapes Go.ChangeAt Go.RowKit Cu Vl
attribute [local go_sem] run_store_float

set_option maxRecDepth 8000 in
set_option maxHeartbeats 8000000 in
theorem lstBd_any (a : Option Addr) (l : List V) (d : Nat) (w : World) (hv : ∀ v ∈ l, VOk v) (hL : Lst vc 4 w a l) (hl : l.length ≤ 140737488355328) : Calls Try.prog 43 #[.slice a l.length d] w fun e w' => e = .returned (.tuple #[vv (lstBd l).1, vv (lstBd l).2.1, .bool (lstBd l).2.2]) ∧ Below w.heap.size w w' := by
  have HN := hid fun w => noneV_any w
  have hres : Try.f43.results = #[.cell 2 25, .cell 3 25, .tmp 4] := by kernel_rfl
  have HRES := hid hres
  obtain ⟨w1, hw1⟩ : ∃ w1, w.alloc (.cells (va v0) 25) = w1 := ⟨_, rfl⟩
  have b1 : Below w.heap.size w w1 := by rw [← hw1]; exact below_new _ _
  have x1 : Bx w1 w.heap.size (va v0) 25 := by rw [← hw1]; exact Bx.new _ _ _
  have s1 : w1.heap.size = w.heap.size + 1 := by rw [← hw1]; simp
  obtain ⟨w2, hw2⟩ : ∃ w2, w1.alloc (.cells (va v0) 25) = w2 := ⟨_, rfl⟩
  have b2 : Below w1.heap.size w1 w2 := by rw [← hw2]; exact below_new _ _
  have x2 : Bx w2 (w.heap.size + 1) (va v0) 25 := by rw [← hw2, ← s1]; exact Bx.new _ _ _
  have X1 := hid (x1.later b2)
  have X2 := hid x2
  have B := hid (below_up b1 b2)
  have e0 : va v0 = #[.int .i64 0, .int .i64 0, .float .f64 0, .string ⟨#[]⟩] := rfl
  rw [e0] at hw1 hw2
  have HWW := hid (show (w.alloc (.cells #[.int .i64 0, .int .i64 0, .float .f64 0, .string ⟨#[]⟩] 25)).alloc (.cells #[.int .i64 0, .int .i64 0, .float .f64 0, .string ⟨#[]⟩] 25) = w2 by rw [hw1, hw2])
  have HL := hid (hL.later B.out)
  clear e0 hres b1 b2 x1 x2 s1 hw1 hw2 hL
  rcases l with _ | ⟨x, r⟩
  · unfold lstBd
    dsimp only [List.length_nil]
    go_enter Try.func43, Try.ntmps43
    go_wp2_with fail
    rw [HWW.out]
    unfold vv v0 at HN
    refine (HN.out _).mono ?_
    rintro e s1 ⟨rfl, hb⟩
    replace X1 := hid (X1.out.later hb)
    replace X2 := hid (X2.out.later hb)
    replace B := hid (below_up B.out hb)
    replace HL := hid (HL.out.later hb)
    clear hb
    go_wp2_with fail
    refine (HN.out _).mono ?_
    rintro e s2 ⟨rfl, hb⟩
    replace X1 := hid (X1.out.later hb)
    replace X2 := hid (X2.out.later hb)
    replace B := hid (below_up B.out hb)
    replace HL := hid (HL.out.later hb)
    clear hb
    obtain ⟨r0, r1, r2, r3⟩ := X1.out.val
    obtain ⟨s0, s1, s2, s3⟩ := X2.out.val
    have fr := X1.out.frz
    have fs := X2.out.frz
    have Y1 := hid ((X1.out.put v0).far (show w.heap.size ≠ w.heap.size + 1 by omega) v0)
    have Y2 := hid (Bx.put (X2.out.far (show w.heap.size + 1 ≠ w.heap.size by omega) v0) v0)
    have YB := hid (below_put (below_put B.out (show w.heap.size ≤ w.heap.size by omega) v0) (show w.heap.size ≤ w.heap.size + 1 by omega) v0)
    unfold putV at Y1 Y2 YB
    try unfold v0 at *
    dsimp only at *
    go_wp2_with fail
    clear r0 r1 r2 r3 s0 s1 s2 s3 fr fs
    generalize World.setCell _ _ _ = w9 at *
    obtain ⟨r0, r1, r2, r3⟩ := Y1.out.val
    obtain ⟨s0, s1, s2, s3⟩ := Y2.out.val
    refine bodyPost_ret (v := .tuple #[vv v0, vv v0, .bool false]) ?_ rfl ⟨rfl, YB.out⟩
    simp only [results, HRES.out]
    go_simp
    try first | rfl | exact ⟨rfl, rfl⟩
  ·
    have HMI := hid fun (W2 : World) (h : Lst vc 4 W2 a (x :: r)) => min_any a x r d W2 hv h hl
    have HMA := hid fun (W2 : World) (h : Lst vc 4 W2 a (x :: r)) => max_any a x r d W2 hv h hl
    have hlp : ¬ (x :: r).length = 0 := by simp
    unfold lstBd
    dsimp only
    obtain ⟨n, hn⟩ : ∃ n, (x :: r).length = n := ⟨_, rfl⟩
    rw [hn] at HMI HMA hlp hl ⊢
    have hz : ((n : Int) == 0) = false := by simp; omega
    generalize r.foldl minV x = mi at *
    generalize r.foldl maxV x = ma at *
    obtain ⟨mK, mI, mb, ms⟩ := mi
    obtain ⟨aK, aI, ab, az⟩ := ma
    unfold vv at HMI HMA
    dsimp only at HMI HMA
    clear hn hlp hv
    go_enter Try.func43, Try.ntmps43
    go_wp2_with fail
    rw [HWW.out]
    refine (HMI.out _ HL.out).mono ?_
    rintro e s1 ⟨rfl, hb⟩
    replace X1 := hid (X1.out.later hb)
    replace X2 := hid (X2.out.later hb)
    replace B := hid (below_up B.out hb)
    replace HL := hid (HL.out.later hb)
    clear hb
    go_wp2_with fail
    refine (HMA.out _ HL.out).mono ?_
    rintro e s2 ⟨rfl, hb⟩
    replace X1 := hid (X1.out.later hb)
    replace X2 := hid (X2.out.later hb)
    replace B := hid (below_up B.out hb)
    replace HL := hid (HL.out.later hb)
    clear hb
    obtain ⟨r0, r1, r2, r3⟩ := X1.out.val
    obtain ⟨s0, s1, s2, s3⟩ := X2.out.val
    have fr := X1.out.frz
    have fs := X2.out.frz
    have Y1 := hid ((X1.out.put ⟨mK, mI, mb, ms⟩).far (show w.heap.size ≠ w.heap.size + 1 by omega) ⟨aK, aI, ab, az⟩)
    have Y2 := hid (Bx.put (X2.out.far (show w.heap.size + 1 ≠ w.heap.size by omega) ⟨mK, mI, mb, ms⟩) ⟨aK, aI, ab, az⟩)
    have YB := hid (below_put (below_put B.out (show w.heap.size ≤ w.heap.size by omega) ⟨mK, mI, mb, ms⟩) (show w.heap.size ≤ w.heap.size + 1 by omega) ⟨aK, aI, ab, az⟩)
    unfold putV at Y1 Y2 YB
    try unfold v0 at *
    dsimp only at *
    go_wp2_with fail
    clear r0 r1 r2 r3 s0 s1 s2 s3 fr fs
    generalize World.setCell _ _ _ = w9 at *
    obtain ⟨r0, r1, r2, r3⟩ := Y1.out.val
    obtain ⟨s0, s1, s2, s3⟩ := Y2.out.val
    refine bodyPost_ret (v := .tuple #[vv ⟨mK, mI, mb, ms⟩, vv ⟨aK, aI, ab, az⟩, .bool true]) ?_ rfl ⟨rfl, YB.out⟩
    simp only [results, HRES.out]
    go_simp
    try first | rfl | exact ⟨rfl, rfl⟩
end Go.Proofs.Ythlfdmigmgpgfaa
