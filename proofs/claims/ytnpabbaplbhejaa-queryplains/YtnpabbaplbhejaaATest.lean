import Derived.Test.YtnpabbaplbhejaaAHoldAll
/-
  holds, Test. (Written by mkhold.py.)
-/
namespace Go.Proofs.Ytnpabbaplbhejaa
open Go.ChangeShapes Go.WideShapes Go.ChangeAt Go.RowKit Cu Vl
attribute [local go_sem] run_store_float

end Go.Proofs.Ytnpabbaplbhejaa
