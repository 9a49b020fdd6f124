/-
  What check stands on here: the memory of wip/cursor.
-/
import Derived.Test.YthgbneadmnhhlaaUStr
import Derived.Test.YthgbneadmnhhlaaCMath
