import Derived.Test.YtnpabbaplbhejaaAStand
import Derived.Deep.RegionHeld3
/-
  holds, Test. (Written by mkhold.py.)
-/
namespace Go.Proofs.Ytnpabbaplbhejaa
open Go.ChangeShapes Go.WideShapes Go.ChangeAt Go.RowKit Cu Vl
attribute [local go_sem] run_store_float

end Go.Proofs.Ytnpabbaplbhejaa

/-
  holds, Test. (Written by mkhold.py.)
-/
namespace Go.Proofs.Ytnpabbaplbhejaa
open Go.ChangeShapes Go.WideShapes Go.ChangeAt Go.RowKit Cu Vl
attribute [local go_sem] run_store_float

end Go.Proofs.Ytnpabbaplbhejaa

/-
  holds, Test. (Written by mkhold.py.)
-/
namespace Go.Proofs.Ytnpabbaplbhejaa
open Go.ChangeShapes Go.WideShapes Go.ChangeAt Go.RowKit Cu Vl
attribute [local go_sem] run_store_float

end Go.Proofs.Ytnpabbaplbhejaa

/-
  holds, Test. (Written by mkhold.py.)
-/
namespace Go.Proofs.Ytnpabbaplbhejaa
open Go.ChangeShapes Go.WideShapes Go.ChangeAt Go.RowKit Cu Vl
attribute [local go_sem] run_store_float

end Go.Proofs.Ytnpabbaplbhejaa

/-
  holds, Test. (Written by mkhold.py.)
-/
namespace Go.Proofs.Ytnpabbaplbhejaa
open Go.ChangeShapes Go.WideShapes Go.ChangeAt Go.RowKit Cu Vl
attribute [local go_sem] run_store_float

end Go.Proofs.Ytnpabbaplbhejaa

/-
  holds, Test. (Written by mkhold.py.)
-/
namespace Go.Proofs.Ytnpabbaplbhejaa
open Go.ChangeShapes Go.WideShapes Go.ChangeAt Go.RowKit Cu Vl
attribute [local go_sem] run_store_float

end Go.Proofs.Ytnpabbaplbhejaa
