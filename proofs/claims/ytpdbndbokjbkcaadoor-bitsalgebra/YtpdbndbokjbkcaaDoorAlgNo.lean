import Derived.Test.YtpdbndbokjbkcaaDoorThreeNo
import Derived.Test.YtpdbndbokjbkcaaDoorAlgWalk
namespace Go.Proofs.YtpdbndbokjbkcaaDoor
open Go.RowKit
set_option maxHeartbeats 2000000 in
set_option maxRecDepth 20000 in
theorem algebra_no (aA aB aC : Option Addr) (ls bs cs : List Bool) (kA kB kC n : Nat) (w : World) (hT : Tab w) (hA : BoolArg w aA ls kA) (hB : BoolArg w aB bs kB) (hC : BoolArg w aC cs kC)
    (hn : min (min ls.length bs.length) cs.length = n) (hm : 16777216 < n) :
    Calls Tryd.prog 5 #[.slice aA ls.length kA, .slice aB bs.length kB, .slice aC cs.length kC] w fun e w' => e = .returned (.bool true) ∧ Below w.heap.size w w' := by
  have HA : Hid (BoolArg w aA ls kA) := hA
  have HB : Hid (BoolArg w aB bs kB) := hB
  have HC : Hid (BoolArg w aC cs kC) := hC
  have HN : Hid (min (min ls.length bs.length) cs.length = n) := hn
  have h1 : (16777216 : Int) < (ls.length : Int) := by omega
  have h2 : (16777216 : Int) < (bs.length : Int) := by omega
  have h3 : (16777216 : Int) < (cs.length : Int) := by omega
  have d1 : decide ((16777216 : Int) < (ls.length : Int)) = true := by simpa using h1
  have d2 : decide ((16777216 : Int) < (bs.length : Int)) = true := by simpa using h2
  have d3 : decide ((16777216 : Int) < (cs.length : Int)) = true := by simpa using h3
  clear hA hB hC hn
  go_enter Tryd.func5, Tryd.ntmps5
  go_wp2_with fail
  refine (awake_yes _ hT).mono ?_
  rintro e w1 ⟨rfl, C1⟩
  go_wp2_with fail
  refine (three_no aA aB aC ls bs cs kA kB kC n _ (BoolArg.later HA.out C1) (BoolArg.later HB.out C1) (BoolArg.later HC.out C1) HN.out hm).mono ?_
  rintro e w2 ⟨rfl, j, rfl⟩
  go_wp2
  all_goals go_ret
  all_goals exact ⟨by first | rfl | (simp; omega), below_drewN C1 j⟩
theorem algebra_walk (aA aB aC : Option Addr) (ls bs cs : List Bool) (kA kB kC : Nat) (w : World) (hT : Tab w) (hA : BoolArg w aA ls kA) (hB : BoolArg w aB bs kB) (hC : BoolArg w aC cs kC) :
    Calls Tryd.prog 5 #[.slice aA ls.length kA, .slice aB bs.length kB, .slice aC cs.length kC] w fun e w' => e = .returned (.bool true) ∧ Below w.heap.size w w' := by
  by_cases hm : min (min ls.length bs.length) cs.length ≤ 16777216
  · exact algebra_yes aA aB aC ls bs cs kA kB kC _ w hT hA hB hC rfl hm
  · exact algebra_no aA aB aC ls bs cs kA kB kC _ w hT hA hB hC rfl (by omega)
end Go.Proofs.YtpdbndbokjbkcaaDoor
