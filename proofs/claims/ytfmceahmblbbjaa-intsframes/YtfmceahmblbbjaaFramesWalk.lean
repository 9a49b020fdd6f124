/-
  IntsFrames.
-/
import Derived.Test.YtfmceahmblbbjaaIRef
import Derived.Test.YtfmceahmblbbjaaUArgs
namespace Go.Proofs.Ytfmceahmblbbjaa
open Go.ChangeShapes Go.WideShapes Go.ChangeAt Go.RowKit It

set_option maxHeartbeats 2000000 in
theorem walk_intsFrames (w : World) (op c b wd : Int) (_hop : In op) (hc : In c) (hb : In b) (_hwd : In wd) :
    Calls Try.prog 3 #[.int .i64 op, .int .i64 c, .int .i64 b, .int .i64 wd] w fun r w' => r = .returned (.bool true) ∧ Below w.heap.size w w' := by
  have key : ∃ (t : Int) (v : Nat) (x y : Bool), (∀ w, Calls Try.prog 5 #[.int .i64 op, .int .i64 c, .int .i64 b, .int .i64 wd] w fun e w' => e = .returned (.tuple #[.int .i64 t, .int .u64 (v : Int), .bool x, .bool y]) ∧ w' = w) ∧ (∀ w, Calls Try.prog 4 #[.int .i64 op, .int .i64 c, .int .i64 b, .int .i64 wd] w fun e w' => e = .returned (.tuple #[.int .i64 t, .int .u64 (v : Int), .bool x, .bool y]) ∧ Below w.heap.size w w') := by
    by_cases h : goodT op wd = true
    · have h2 : opI op = true ∧ 0 ≤ wd ∧ wd ≤ 64 := by
        unfold goodT at h
        simp at h
        exact ⟨h.1.1, h.1.2, h.2⟩
      obtain ⟨n, rfl⟩ := Int.eq_ofNat_of_zero_le h2.2.1
      exact ⟨_, _, _, _, fun w => toFrame_good op b c n w hb hc (by omega) h2.1, fun w => refFrame_good op b c n w hb hc (by omega) h2.1⟩
    · have h' : goodT op wd = false := by simpa using h
      exact ⟨0, 0, false, false, fun w => toFrame_bad op b c wd w h', fun w => refFrame_bad op b c wd w h'⟩
  obtain ⟨t, v, x, y, h1, h2⟩ := key
  have H1 := hid h1
  have H2 := hid (h2 w)
  have e1 : (t == t) = true := by simp
  have e2 : (x == x) = true := by simp
  have e3 : (y == y) = true := by simp
  have e4 : ((v : Int) == (v : Int)) = true := by simp
  clear h1 h2 hc hb
  go_enter Try.func3, Try.ntmps3
  go_wp2_with fail
  refine H2.out.mono ?_
  rintro e w1 ⟨rfl, hb⟩
  have B := hid hb
  clear hb
  go_wp2_with fail
  refine (H1.out _).mono ?_
  rintro e w2 ⟨rfl, hw⟩
  subst w2
  go_wp2_with fail
  go_ret
  exact ⟨rfl, B.out⟩
end Go.Proofs.Ytfmceahmblbbjaa
