import Derived.Test.YthgnibphhiaecaaGreatAChkAll
/-
  Check. (Written by mkchk.py.)
-/
namespace Go.Proofs.YthgnibphhiaecaaGreat
open Go.ChangeShapes Go.WideShapes Go.ChangeAt Go.RowKit Cu Vl
attribute [local go_sem] run_store_float

theorem check_any (ac : Option Addr) (l : List Col) (dc : Nat) (p : Pr) (a : Option Addr) (d : Nat) (b : Option Addr) (e : Nat) (w : World) (hL : Lst cc 3 w ac l) (hl : l.length ≤ 140737488355328) (hp : POk w p a) :
    Calls Tryz.prog 69 #[.slice ac l.length dc, pv p a d b e] w fun r w' => r = .returned (.int .i64 (chkP l p)) ∧ Below w.heap.size w w' := by
  by_cases hk : 1 ≤ p.K ∧ p.K ≤ 5
  · have : p.K = 1 ∨ p.K = 2 ∨ p.K = 3 ∨ p.K = 4 ∨ p.K = 5 := by omega
    rcases this with h | h | h | h | h
    · exact check_1 ac l dc p a d b e w hL hl hp h
    · exact check_2 ac l dc p a d b e w hL hl hp h
    · exact check_3 ac l dc p a d b e w hL hl hp h
    · exact check_4 ac l dc p a d b e w hL hl hp h
    · exact check_5 ac l dc p a d b e w hL hl hp h
  · exact check_0 ac l dc p a d b e w hL hl hp hk
end Go.Proofs.YthgnibphhiaecaaGreat
