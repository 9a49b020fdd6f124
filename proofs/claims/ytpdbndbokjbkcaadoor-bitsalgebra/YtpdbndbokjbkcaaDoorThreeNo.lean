import Derived.Test.YtpdbndbokjbkcaaDoorThree
namespace Go.Proofs.YtpdbndbokjbkcaaDoor
open Go.RowKit
set_option maxHeartbeats 2000000 in
set_option maxRecDepth 20000 in
theorem threeNo_1 (aA aB aC : Option Addr) (kA kB kC la lb lc n : Nat) (w : World)
    (kA1 : ∀ wx : World, (Instr.slice 45 (.slice aA la kA) none (some (.int .i64 (n : Int))) none).run Tryd.prog wx = .ok (.slice aA n kA) wx)
    (kB1 : ∀ wx : World, (Instr.slice 45 (.slice aB lb kB) none (some (.int .i64 (n : Int))) none).run Tryd.prog wx = .ok (.slice aB n kB) wx)
    (kC1 : ∀ wx : World, (Instr.slice 45 (.slice aC lc kC) none (some (.int .i64 (n : Int))) none).run Tryd.prog wx = .ok (.slice aC n kC) wx)
    (hm : 16777216 < n) (hm2 : n ≤ 9223372036854775807) (c1 : lb < la) (c2 : lc < lb) (hn : n = lc) :
    Calls Tryd.prog 31 #[.slice aA la kA, .slice aB lb kB, .slice aC lc kC] w fun e w' => e = .returned (.tuple #[.pointer none, .pointer none, .pointer none]) ∧ ∃ j, w' = w.drewN j := by
  subst hn
  go_enter Tryd.func31, Tryd.ntmps31
  go_wp2
  go_region_with (go_at_call 29; refine (of_no _ n _ _ hm hm2).mono ?_; rintro e w1 ⟨rfl, rfl⟩)
  all_goals go_wp2
  all_goals go_ret3
  all_goals exact ⟨rfl, 1, rfl⟩
set_option maxHeartbeats 2000000 in
set_option maxRecDepth 20000 in
theorem threeNo_2 (aA aB aC : Option Addr) (kA kB kC la lb lc n : Nat) (w : World)
    (kA1 : ∀ wx : World, (Instr.slice 45 (.slice aA la kA) none (some (.int .i64 (n : Int))) none).run Tryd.prog wx = .ok (.slice aA n kA) wx)
    (kB1 : ∀ wx : World, (Instr.slice 45 (.slice aB lb kB) none (some (.int .i64 (n : Int))) none).run Tryd.prog wx = .ok (.slice aB n kB) wx)
    (kC1 : ∀ wx : World, (Instr.slice 45 (.slice aC lc kC) none (some (.int .i64 (n : Int))) none).run Tryd.prog wx = .ok (.slice aC n kC) wx)
    (hm : 16777216 < n) (hm2 : n ≤ 9223372036854775807) (c1 : lb < la) (c2 : ¬ lc < lb) (hn : n = lb) :
    Calls Tryd.prog 31 #[.slice aA la kA, .slice aB lb kB, .slice aC lc kC] w fun e w' => e = .returned (.tuple #[.pointer none, .pointer none, .pointer none]) ∧ ∃ j, w' = w.drewN j := by
  subst hn
  go_enter Tryd.func31, Tryd.ntmps31
  go_wp2
  go_region_with (go_at_call 29; refine (of_no _ n _ _ hm hm2).mono ?_; rintro e w1 ⟨rfl, rfl⟩)
  all_goals go_wp2
  all_goals go_ret3
  all_goals exact ⟨rfl, 1, rfl⟩
set_option maxHeartbeats 2000000 in
set_option maxRecDepth 20000 in
theorem threeNo_3 (aA aB aC : Option Addr) (kA kB kC la lb lc n : Nat) (w : World)
    (kA1 : ∀ wx : World, (Instr.slice 45 (.slice aA la kA) none (some (.int .i64 (n : Int))) none).run Tryd.prog wx = .ok (.slice aA n kA) wx)
    (kB1 : ∀ wx : World, (Instr.slice 45 (.slice aB lb kB) none (some (.int .i64 (n : Int))) none).run Tryd.prog wx = .ok (.slice aB n kB) wx)
    (kC1 : ∀ wx : World, (Instr.slice 45 (.slice aC lc kC) none (some (.int .i64 (n : Int))) none).run Tryd.prog wx = .ok (.slice aC n kC) wx)
    (hm : 16777216 < n) (hm2 : n ≤ 9223372036854775807) (c1 : ¬ lb < la) (c2 : lc < la) (hn : n = lc) :
    Calls Tryd.prog 31 #[.slice aA la kA, .slice aB lb kB, .slice aC lc kC] w fun e w' => e = .returned (.tuple #[.pointer none, .pointer none, .pointer none]) ∧ ∃ j, w' = w.drewN j := by
  subst hn
  go_enter Tryd.func31, Tryd.ntmps31
  go_wp2
  go_region_with (go_at_call 29; refine (of_no _ n _ _ hm hm2).mono ?_; rintro e w1 ⟨rfl, rfl⟩)
  all_goals go_wp2
  all_goals go_ret3
  all_goals exact ⟨rfl, 1, rfl⟩
set_option maxHeartbeats 2000000 in
set_option maxRecDepth 20000 in
theorem threeNo_4 (aA aB aC : Option Addr) (kA kB kC la lb lc n : Nat) (w : World)
    (kA1 : ∀ wx : World, (Instr.slice 45 (.slice aA la kA) none (some (.int .i64 (n : Int))) none).run Tryd.prog wx = .ok (.slice aA n kA) wx)
    (kB1 : ∀ wx : World, (Instr.slice 45 (.slice aB lb kB) none (some (.int .i64 (n : Int))) none).run Tryd.prog wx = .ok (.slice aB n kB) wx)
    (kC1 : ∀ wx : World, (Instr.slice 45 (.slice aC lc kC) none (some (.int .i64 (n : Int))) none).run Tryd.prog wx = .ok (.slice aC n kC) wx)
    (hm : 16777216 < n) (hm2 : n ≤ 9223372036854775807) (c1 : ¬ lb < la) (c2 : ¬ lc < la) (hn : n = la) :
    Calls Tryd.prog 31 #[.slice aA la kA, .slice aB lb kB, .slice aC lc kC] w fun e w' => e = .returned (.tuple #[.pointer none, .pointer none, .pointer none]) ∧ ∃ j, w' = w.drewN j := by
  subst hn
  go_enter Tryd.func31, Tryd.ntmps31
  go_wp2
  go_region_with (go_at_call 29; refine (of_no _ n _ _ hm hm2).mono ?_; rintro e w1 ⟨rfl, rfl⟩)
  all_goals go_wp2
  all_goals go_ret3
  all_goals exact ⟨rfl, 1, rfl⟩
theorem three_no (aA aB aC : Option Addr) (ls bs cs : List Bool) (kA kB kC n : Nat) (w : World) (hA : BoolArg w aA ls kA) (hB : BoolArg w aB bs kB) (hC : BoolArg w aC cs kC)
    (hn : min (min ls.length bs.length) cs.length = n) (hm : 16777216 < n) :
    Calls Tryd.prog 31 #[.slice aA ls.length kA, .slice aB bs.length kB, .slice aC cs.length kC] w fun e w' => e = .returned (.tuple #[.pointer none, .pointer none, .pointer none]) ∧ ∃ j, w' = w.drewN j := by
  have kA1 := hA.cut (n := n) (by omega)
  have kB1 := hB.cut (n := n) (by omega)
  have kC1 := hC.cut (n := n) (by omega)
  have hm2 : n ≤ 9223372036854775807 := by have := hA.2.1; have := hA.2.2.1; omega
  by_cases c1 : bs.length < ls.length
  · by_cases c2 : cs.length < bs.length
    · exact threeNo_1 aA aB aC kA kB kC _ _ _ n w kA1 kB1 kC1 hm hm2 c1 c2 (by omega)
    · exact threeNo_2 aA aB aC kA kB kC _ _ _ n w kA1 kB1 kC1 hm hm2 c1 c2 (by omega)
  · by_cases c2 : cs.length < ls.length
    · exact threeNo_3 aA aB aC kA kB kC _ _ _ n w kA1 kB1 kC1 hm hm2 c1 c2 (by omega)
    · exact threeNo_4 aA aB aC kA kB kC _ _ _ n w kA1 kB1 kC1 hm hm2 c1 c2 (by omega)
end Go.Proofs.YtpdbndbokjbkcaaDoor
