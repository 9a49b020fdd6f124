/-
  Wides as whole numbers modulo 2^128: plain Lean.
-/
import Derived.Test.YtdfmaicmbnjilaaDoorProg
namespace Go.Proofs.YtdfmaicmbnjilaaDoor
namespace Wd

/-- The two halves of a whole number, as a wide has them. -/
def lo (v : Int) : Int := v % 18446744073709551616
def hi (v : Int) : Int := (v / 18446744073709551616 + 9223372036854775808) % 18446744073709551616 - 9223372036854775808
/-- A number that a wide is. -/
def Is (v : Int) : Prop := -170141183460469231731687303715884105728 ≤ v ∧ v < 170141183460469231731687303715884105728
def I64 (v : Int) : Prop := -9223372036854775808 ≤ v ∧ v ≤ 9223372036854775807
def U64 (v : Int) : Prop := 0 ≤ v ∧ v ≤ 18446744073709551615
theorem lo_u64 (v : Int) : U64 (lo v) := by unfold lo U64; omega
theorem hi_i64 (v : Int) : I64 (hi v) := by unfold hi I64; omega
/-- The number modulo 2^128, within a wide's bounds. -/
def nrm (v : Int) : Int := (v + 170141183460469231731687303715884105728) % 340282366920938463463374607431768211456 - 170141183460469231731687303715884105728
theorem nrm_is (v : Int) : Is (nrm v) := by unfold nrm Is; omega
theorem nrm_of {v : Int} (h : Is v) : nrm v = v := by unfold nrm; unfold Is at h; omega
theorem hi_lo (v : Int) : hi v * 18446744073709551616 + lo v = nrm v := by unfold hi lo nrm; omega
theorem hi_lo_is {v : Int} (h : Is v) : hi v * 18446744073709551616 + lo v = v := by rw [hi_lo, nrm_of h]
theorem nrm_idem (v : Int) : nrm (nrm v) = nrm v := nrm_of (nrm_is v)
theorem hi_nrm (v : Int) : hi (nrm v) = hi v := by unfold hi nrm; omega
theorem lo_nrm (v : Int) : lo (nrm v) = lo v := by unfold lo nrm; omega
/-- Halves that are alike are those of numbers alike modulo 2^128. -/
theorem halves_iff (a b : Int) : (hi a = hi b ∧ lo a = lo b) ↔ nrm a = nrm b := by
  constructor
  · rintro ⟨h1, h2⟩
    rw [← hi_lo, ← hi_lo, h1, h2]
  · intro h
    exact ⟨by rw [← hi_nrm, h, hi_nrm], by rw [← lo_nrm, h, lo_nrm]⟩
/-- Any two words are a wide. -/
theorem of_halves {h l : Int} (h1 : I64 h) (h2 : U64 l) : ∃ v, Is v ∧ h = hi v ∧ l = lo v := by
  unfold I64 at h1; unfold U64 at h2
  refine ⟨h * 18446744073709551616 + l, ?_, ?_, ?_⟩
  · unfold Is; omega
  · unfold hi; omega
  · unfold lo; omega
theorem lo_plus (a b : Int) : (lo a + lo b) % 18446744073709551616 = lo (a + b) := by unfold lo; omega
theorem lo_minus (a b : Int) : (lo a - lo b) % 18446744073709551616 = lo (a - b) := by unfold lo; omega
/-- A word with a sign as one without. -/
def uw (x : Int) : Int := x % 18446744073709551616
def sw (x : Int) : Int := (x + 9223372036854775808) % 18446744073709551616 - 9223372036854775808
theorem hi_plus (a b : Int) : sw ((uw (hi a) + uw (hi b) + (lo a + lo b) / 18446744073709551616) % 18446744073709551616) = hi (a + b) := by unfold sw uw hi lo; omega
def bor (x y : Int) : Int := if x < y then 1 else 0
theorem bor_in (x y : Int) : 0 ≤ bor x y ∧ bor x y ≤ 1 := by unfold bor; split <;> omega
theorem hi_minus (a b : Int) : sw ((uw (hi a) - uw (hi b) - bor (lo a) (lo b)) % 18446744073709551616) = hi (a - b) := by unfold sw uw hi bor lo; split <;> omega
theorem is_lt {a b : Int} (h1 : Is a) (h2 : Is b) : a < b ↔ hi a < hi b ∨ hi a = hi b ∧ lo a < lo b := by
  unfold Is at h1 h2; unfold hi lo; omega
theorem hi_neg {a : Int} (h : Is a) : hi a < 0 ↔ a < 0 := by unfold Is at h; unfold hi; omega
theorem hi_of {i : Int} (h : I64 i) : hi i = if i < 0 then -1 else 0 := by unfold I64 at h; unfold hi; split <;> omega
/-- -1, 0, 1 as one number is below another, the same, above. -/
def cmpI (a b : Int) : Int := if a < b then -1 else if a = b then 0 else 1
theorem cmp_halves {a b : Int} (h1 : Is a) (h2 : Is b) : cmpI a b = if cmpI (hi a) (hi b) = 0 then cmpI (lo a) (lo b) else cmpI (hi a) (hi b) := by
  have k := is_lt h1 h2
  have k2 := is_lt h2 h1
  have e1 := hi_lo_is h1
  have e2 := hi_lo_is h2
  unfold cmpI
  repeat' split
  all_goals first | rfl | omega
def size (a : Int) : Int := if a < 0 then -a else a
theorem size_in {a : Int} (h : Is a) : 0 ≤ size a ∧ size a ≤ 170141183460469231731687303715884105728 := by unfold Is at h; unfold size; split <;> omega
end Wd
end Go.Proofs.YtdfmaicmbnjilaaDoor
